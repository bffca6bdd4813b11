
import Derived.Test.YtjlngcmkgkiplaaGreatDoorWcBA
set_option maxRecDepth 1000000
set_option maxHeartbeats 8000000
namespace Go.Proofs.YtjlngcmkgkiplaaGreatDoor
open Go.RowKit Go.Maps
theorem wcell1_0 (p V : Nat) (L : List InsZ) (size out : Int) (r n : List Int) (aL : Option Addr) (cL : Nat) (ar : Option Addr) (cr : Nat) (an : Option Addr) (cn : Nat) (w : World) (H : VF p L size out r n) (hV : WW p V L size out r n aL cL ar cr an cn w) (ia ib ic : Int) (hi : I64 ia /\ I64 ib /\ I64 ic) :
  Calls Tryz.prog 141 #[.pointer (some ⟨V, 0, none⟩), .agg #[.int .i64 0, .int .i64 ia, .int .i64 ib, .int .i64 ic], .int .i64 1] w fun e w' => e = .returned (.int .i64 (tvC p r 1 ⟨0, ia, ib, ic⟩)) /\ Below w.heap.size w w' := by
 have h3 := H.h3
 have h4 := H.h4
 have HEM := hemL H
 obtain ⟨hia, hib, hic⟩ := hi
 obtain ⟨W0, hW0⟩ := exE (w.alloc (.cells #[.int .i64 0, .int .i64 ia, .int .i64 ib, .int .i64 ic] 180))
 have hb0 := blA hW0
 replace hV := hV.below hb0
 have HB0 := hid hb0
 clear hb0
 obtain ⟨c0, c1, c2, c3, c4, c5⟩ := hV.cells
 have QP := qpL c0
 obtain ⟨br, orr, har, hrw⟩ := rowB_at hV.row H.hr
 subst har
 have r0 := hrw 0 (by omega)
 rw [Nat.add_zero] at r0
 have i0 := H.fr 0
 have l0 := llL H 0
 have l0' := llN H 0
 have r1 := hrw 1 (by omega)
 have i1 := H.fr 1
 have l1 := llL H 1
 have l1' := llN H 1
 clear hrw
 have HE : Hid (tvC p r 1 ⟨0, ia, ib, ic⟩ = 0) := rfl
 obtain ⟨R, hR⟩ := exE (tvC p r 1 ⟨0, ia, ib, ic⟩)
 rw [<- hR] at HE ⊢
 clear hR
 clear i0 i1
 clear HEM H hV
 generalize zat r 0 = x0 at *
 generalize zat r 1 = x1 at *
 generalize r.length = lr at *
 generalize L.length = nL at *
 subst hW0
 go_enter Tryz.func141, Tryz.ntmps141
 go_wp2_with fail
 go_ret
 exact ⟨by have h := HE.out; subst h; rfl, HB0.out⟩
theorem wcell1_1 (p V : Nat) (L : List InsZ) (size out : Int) (r n : List Int) (aL : Option Addr) (cL : Nat) (ar : Option Addr) (cr : Nat) (an : Option Addr) (cn : Nat) (w : World) (H : VF p L size out r n) (hV : WW p V L size out r n aL cL ar cr an cn w) (ia ib ic : Int) (hi : I64 ia /\ I64 ib /\ I64 ic) :
  Calls Tryz.prog 141 #[.pointer (some ⟨V, 0, none⟩), .agg #[.int .i64 1, .int .i64 ia, .int .i64 ib, .int .i64 ic], .int .i64 1] w fun e w' => e = .returned (.int .i64 (tvC p r 1 ⟨1, ia, ib, ic⟩)) /\ Below w.heap.size w w' := by
 have h3 := H.h3
 have h4 := H.h4
 have HEM := hemL H
 obtain ⟨hia, hib, hic⟩ := hi
 obtain ⟨W0, hW0⟩ := exE (w.alloc (.cells #[.int .i64 1, .int .i64 ia, .int .i64 ib, .int .i64 ic] 180))
 have hb0 := blA hW0
 replace hV := hV.below hb0
 have HB0 := hid hb0
 clear hb0
 obtain ⟨c0, c1, c2, c3, c4, c5⟩ := hV.cells
 have QP := qpL c0
 obtain ⟨br, orr, har, hrw⟩ := rowB_at hV.row H.hr
 subst har
 have r0 := hrw 0 (by omega)
 rw [Nat.add_zero] at r0
 have i0 := H.fr 0
 have l0 := llL H 0
 have l0' := llN H 0
 have r1 := hrw 1 (by omega)
 have i1 := H.fr 1
 have l1 := llL H 1
 have l1' := llN H 1
 clear hrw
 have HE : Hid (tvC p r 1 ⟨1, ia, ib, ic⟩ = (((zat r 0) + ib) % (p : Int))) := by
  unfold Hid
  rw [show tvC p r 1 ⟨1, ia, ib, ic⟩ = (zat r 0 + ib) % (p : Int) from rfl]
 obtain ⟨R, hR⟩ := exE (tvC p r 1 ⟨1, ia, ib, ic⟩)
 rw [<- hR] at HE ⊢
 clear hR
 have HC0 := hid (fun W h => wadd_any p V (zat r 0) ib W h3 h4 h i0 hib)
 clear i0 i1
 clear HEM H hV
 generalize (((zat r 0) + ib) % (p : Int)) = t1 at *
 generalize zat r 0 = x0 at *
 generalize zat r 1 = x1 at *
 generalize r.length = lr at *
 generalize L.length = nL at *
 subst hW0
 go_enter Tryz.func141, Tryz.ntmps141
 go_wp2_with fail
 refine (HC0.out _ c0).mono ?_
 rintro e w' ⟨rfl, hw'⟩
 have hw'' := hw'.symm
 subst hw''
 clear hw'
 go_wp2_with fail
 go_ret
 exact ⟨by have h := HE.out; subst h; rfl, HB0.out⟩
theorem wcell1_2 (p V : Nat) (L : List InsZ) (size out : Int) (r n : List Int) (aL : Option Addr) (cL : Nat) (ar : Option Addr) (cr : Nat) (an : Option Addr) (cn : Nat) (w : World) (H : VF p L size out r n) (hV : WW p V L size out r n aL cL ar cr an cn w) (ia ib ic : Int) (hi : I64 ia /\ I64 ib /\ I64 ic) :
  Calls Tryz.prog 141 #[.pointer (some ⟨V, 0, none⟩), .agg #[.int .i64 2, .int .i64 ia, .int .i64 ib, .int .i64 ic], .int .i64 1] w fun e w' => e = .returned (.int .i64 (tvC p r 1 ⟨2, ia, ib, ic⟩)) /\ Below w.heap.size w w' := by
 have h3 := H.h3
 have h4 := H.h4
 have HEM := hemL H
 obtain ⟨hia, hib, hic⟩ := hi
 obtain ⟨W0, hW0⟩ := exE (w.alloc (.cells #[.int .i64 2, .int .i64 ia, .int .i64 ib, .int .i64 ic] 180))
 have hb0 := blA hW0
 replace hV := hV.below hb0
 have HB0 := hid hb0
 clear hb0
 obtain ⟨c0, c1, c2, c3, c4, c5⟩ := hV.cells
 have QP := qpL c0
 obtain ⟨br, orr, har, hrw⟩ := rowB_at hV.row H.hr
 subst har
 have r0 := hrw 0 (by omega)
 rw [Nat.add_zero] at r0
 have i0 := H.fr 0
 have l0 := llL H 0
 have l0' := llN H 0
 have r1 := hrw 1 (by omega)
 have i1 := H.fr 1
 have l1 := llL H 1
 have l1' := llN H 1
 clear hrw
 have HE : Hid (tvC p r 1 ⟨2, ia, ib, ic⟩ = (((zat r 0) + ib) % (p : Int))) := by
  unfold Hid
  rw [show tvC p r 1 ⟨2, ia, ib, ic⟩ = (zat r 0 + ib) % (p : Int) from rfl]
 obtain ⟨R, hR⟩ := exE (tvC p r 1 ⟨2, ia, ib, ic⟩)
 rw [<- hR] at HE ⊢
 clear hR
 have HC0 := hid (fun W h => wadd_any p V (zat r 0) ib W h3 h4 h i0 hib)
 clear i0 i1
 clear HEM H hV
 generalize (((zat r 0) + ib) % (p : Int)) = t1 at *
 generalize zat r 0 = x0 at *
 generalize zat r 1 = x1 at *
 generalize r.length = lr at *
 generalize L.length = nL at *
 subst hW0
 go_enter Tryz.func141, Tryz.ntmps141
 go_wp2_with fail
 refine (HC0.out _ c0).mono ?_
 rintro e w' ⟨rfl, hw'⟩
 have hw'' := hw'.symm
 subst hw''
 clear hw'
 go_wp2_with fail
 go_ret
 exact ⟨by have h := HE.out; subst h; rfl, HB0.out⟩
theorem wcell1_3 (p V : Nat) (L : List InsZ) (size out : Int) (r n : List Int) (aL : Option Addr) (cL : Nat) (ar : Option Addr) (cr : Nat) (an : Option Addr) (cn : Nat) (w : World) (H : VF p L size out r n) (hV : WW p V L size out r n aL cL ar cr an cn w) (ia ib ic : Int) (hi : I64 ia /\ I64 ib /\ I64 ic) :
  Calls Tryz.prog 141 #[.pointer (some ⟨V, 0, none⟩), .agg #[.int .i64 3, .int .i64 ia, .int .i64 ib, .int .i64 ic], .int .i64 1] w fun e w' => e = .returned (.int .i64 (tvC p r 1 ⟨3, ia, ib, ic⟩)) /\ Below w.heap.size w w' := by
 have h3 := H.h3
 have h4 := H.h4
 have HEM := hemL H
 obtain ⟨hia, hib, hic⟩ := hi
 obtain ⟨W0, hW0⟩ := exE (w.alloc (.cells #[.int .i64 3, .int .i64 ia, .int .i64 ib, .int .i64 ic] 180))
 have hb0 := blA hW0
 replace hV := hV.below hb0
 have HB0 := hid hb0
 clear hb0
 obtain ⟨c0, c1, c2, c3, c4, c5⟩ := hV.cells
 have QP := qpL c0
 obtain ⟨br, orr, har, hrw⟩ := rowB_at hV.row H.hr
 subst har
 have r0 := hrw 0 (by omega)
 rw [Nat.add_zero] at r0
 have i0 := H.fr 0
 have l0 := llL H 0
 have l0' := llN H 0
 have r1 := hrw 1 (by omega)
 have i1 := H.fr 1
 have l1 := llL H 1
 have l1' := llN H 1
 clear hrw
 have HE : Hid (tvC p r 1 ⟨3, ia, ib, ic⟩ = (((zat r 0) + ib) % (p : Int))) := by
  unfold Hid
  rw [show tvC p r 1 ⟨3, ia, ib, ic⟩ = (zat r 0 + ib) % (p : Int) from rfl]
 obtain ⟨R, hR⟩ := exE (tvC p r 1 ⟨3, ia, ib, ic⟩)
 rw [<- hR] at HE ⊢
 clear hR
 have HC0 := hid (fun W h => wadd_any p V (zat r 0) ib W h3 h4 h i0 hib)
 clear i0 i1
 clear HEM H hV
 generalize (((zat r 0) + ib) % (p : Int)) = t1 at *
 generalize zat r 0 = x0 at *
 generalize zat r 1 = x1 at *
 generalize r.length = lr at *
 generalize L.length = nL at *
 subst hW0
 go_enter Tryz.func141, Tryz.ntmps141
 go_wp2_with fail
 refine (HC0.out _ c0).mono ?_
 rintro e w' ⟨rfl, hw'⟩
 have hw'' := hw'.symm
 subst hw''
 clear hw'
 go_wp2_with fail
 go_ret
 exact ⟨by have h := HE.out; subst h; rfl, HB0.out⟩
theorem wcell1_4 (p V : Nat) (L : List InsZ) (size out : Int) (r n : List Int) (aL : Option Addr) (cL : Nat) (ar : Option Addr) (cr : Nat) (an : Option Addr) (cn : Nat) (w : World) (H : VF p L size out r n) (hV : WW p V L size out r n aL cL ar cr an cn w) (ia ib ic : Int) (hi : I64 ia /\ I64 ib /\ I64 ic) :
  Calls Tryz.prog 141 #[.pointer (some ⟨V, 0, none⟩), .agg #[.int .i64 4, .int .i64 ia, .int .i64 ib, .int .i64 ic], .int .i64 1] w fun e w' => e = .returned (.int .i64 (tvC p r 1 ⟨4, ia, ib, ic⟩)) /\ Below w.heap.size w w' := by
 have h3 := H.h3
 have h4 := H.h4
 have HEM := hemL H
 obtain ⟨hia, hib, hic⟩ := hi
 obtain ⟨W0, hW0⟩ := exE (w.alloc (.cells #[.int .i64 4, .int .i64 ia, .int .i64 ib, .int .i64 ic] 180))
 have hb0 := blA hW0
 replace hV := hV.below hb0
 have HB0 := hid hb0
 clear hb0
 obtain ⟨c0, c1, c2, c3, c4, c5⟩ := hV.cells
 have QP := qpL c0
 obtain ⟨br, orr, har, hrw⟩ := rowB_at hV.row H.hr
 subst har
 have r0 := hrw 0 (by omega)
 rw [Nat.add_zero] at r0
 have i0 := H.fr 0
 have l0 := llL H 0
 have l0' := llN H 0
 have r1 := hrw 1 (by omega)
 have i1 := H.fr 1
 have l1 := llL H 1
 have l1' := llN H 1
 clear hrw
 have HE : Hid (tvC p r 1 ⟨4, ia, ib, ic⟩ = (((zat r 0) + ib) % (p : Int))) := by
  unfold Hid
  rw [show tvC p r 1 ⟨4, ia, ib, ic⟩ = (zat r 0 + ib) % (p : Int) from rfl]
 obtain ⟨R, hR⟩ := exE (tvC p r 1 ⟨4, ia, ib, ic⟩)
 rw [<- hR] at HE ⊢
 clear hR
 have HC0 := hid (fun W h => wadd_any p V (zat r 0) ib W h3 h4 h i0 hib)
 clear i0 i1
 clear HEM H hV
 generalize (((zat r 0) + ib) % (p : Int)) = t1 at *
 generalize zat r 0 = x0 at *
 generalize zat r 1 = x1 at *
 generalize r.length = lr at *
 generalize L.length = nL at *
 subst hW0
 go_enter Tryz.func141, Tryz.ntmps141
 go_wp2_with fail
 refine (HC0.out _ c0).mono ?_
 rintro e w' ⟨rfl, hw'⟩
 have hw'' := hw'.symm
 subst hw''
 clear hw'
 go_wp2_with fail
 go_ret
 exact ⟨by have h := HE.out; subst h; rfl, HB0.out⟩
theorem wcell1_5 (p V : Nat) (L : List InsZ) (size out : Int) (r n : List Int) (aL : Option Addr) (cL : Nat) (ar : Option Addr) (cr : Nat) (an : Option Addr) (cn : Nat) (w : World) (H : VF p L size out r n) (hV : WW p V L size out r n aL cL ar cr an cn w) (ia ib ic : Int) (hi : I64 ia /\ I64 ib /\ I64 ic) :
  Calls Tryz.prog 141 #[.pointer (some ⟨V, 0, none⟩), .agg #[.int .i64 5, .int .i64 ia, .int .i64 ib, .int .i64 ic], .int .i64 1] w fun e w' => e = .returned (.int .i64 (tvC p r 1 ⟨5, ia, ib, ic⟩)) /\ Below w.heap.size w w' := by
 have h3 := H.h3
 have h4 := H.h4
 have HEM := hemL H
 obtain ⟨hia, hib, hic⟩ := hi
 obtain ⟨W0, hW0⟩ := exE (w.alloc (.cells #[.int .i64 5, .int .i64 ia, .int .i64 ib, .int .i64 ic] 180))
 have hb0 := blA hW0
 replace hV := hV.below hb0
 have HB0 := hid hb0
 clear hb0
 obtain ⟨c0, c1, c2, c3, c4, c5⟩ := hV.cells
 have QP := qpL c0
 obtain ⟨br, orr, har, hrw⟩ := rowB_at hV.row H.hr
 subst har
 have r0 := hrw 0 (by omega)
 rw [Nat.add_zero] at r0
 have i0 := H.fr 0
 have l0 := llL H 0
 have l0' := llN H 0
 have r1 := hrw 1 (by omega)
 have i1 := H.fr 1
 have l1 := llL H 1
 have l1' := llN H 1
 clear hrw
 have HE : Hid (tvC p r 1 ⟨5, ia, ib, ic⟩ = 0) := rfl
 obtain ⟨R, hR⟩ := exE (tvC p r 1 ⟨5, ia, ib, ic⟩)
 rw [<- hR] at HE ⊢
 clear hR
 clear i0 i1
 clear HEM H hV
 generalize zat r 0 = x0 at *
 generalize zat r 1 = x1 at *
 generalize r.length = lr at *
 generalize L.length = nL at *
 subst hW0
 go_enter Tryz.func141, Tryz.ntmps141
 go_wp2_with fail
 go_ret
 exact ⟨by have h := HE.out; subst h; rfl, HB0.out⟩
theorem wcell1_6 (p V : Nat) (L : List InsZ) (size out : Int) (r n : List Int) (aL : Option Addr) (cL : Nat) (ar : Option Addr) (cr : Nat) (an : Option Addr) (cn : Nat) (w : World) (H : VF p L size out r n) (hV : WW p V L size out r n aL cL ar cr an cn w) (ia ib ic : Int) (hi : I64 ia /\ I64 ib /\ I64 ic) :
  Calls Tryz.prog 141 #[.pointer (some ⟨V, 0, none⟩), .agg #[.int .i64 6, .int .i64 ia, .int .i64 ib, .int .i64 ic], .int .i64 1] w fun e w' => e = .returned (.int .i64 (tvC p r 1 ⟨6, ia, ib, ic⟩)) /\ Below w.heap.size w w' := by
 have h3 := H.h3
 have h4 := H.h4
 have HEM := hemL H
 obtain ⟨hia, hib, hic⟩ := hi
 obtain ⟨W0, hW0⟩ := exE (w.alloc (.cells #[.int .i64 6, .int .i64 ia, .int .i64 ib, .int .i64 ic] 180))
 have hb0 := blA hW0
 replace hV := hV.below hb0
 have HB0 := hid hb0
 clear hb0
 obtain ⟨c0, c1, c2, c3, c4, c5⟩ := hV.cells
 have QP := qpL c0
 obtain ⟨br, orr, har, hrw⟩ := rowB_at hV.row H.hr
 subst har
 have r0 := hrw 0 (by omega)
 rw [Nat.add_zero] at r0
 have i0 := H.fr 0
 have l0 := llL H 0
 have l0' := llN H 0
 have r1 := hrw 1 (by omega)
 have i1 := H.fr 1
 have l1 := llL H 1
 have l1' := llN H 1
 clear hrw
 have HE : Hid (tvC p r 1 ⟨6, ia, ib, ic⟩ = (((zat r 0) + ib) % (p : Int))) := by
  unfold Hid
  rw [show tvC p r 1 ⟨6, ia, ib, ic⟩ = (zat r 0 + ib) % (p : Int) from rfl]
 obtain ⟨R, hR⟩ := exE (tvC p r 1 ⟨6, ia, ib, ic⟩)
 rw [<- hR] at HE ⊢
 clear hR
 have HC0 := hid (fun W h => wadd_any p V (zat r 0) ib W h3 h4 h i0 hib)
 clear i0 i1
 clear HEM H hV
 generalize (((zat r 0) + ib) % (p : Int)) = t1 at *
 generalize zat r 0 = x0 at *
 generalize zat r 1 = x1 at *
 generalize r.length = lr at *
 generalize L.length = nL at *
 subst hW0
 go_enter Tryz.func141, Tryz.ntmps141
 go_wp2_with fail
 refine (HC0.out _ c0).mono ?_
 rintro e w' ⟨rfl, hw'⟩
 have hw'' := hw'.symm
 subst hw''
 clear hw'
 go_wp2_with fail
 go_ret
 exact ⟨by have h := HE.out; subst h; rfl, HB0.out⟩
theorem wcell1_7 (p V : Nat) (L : List InsZ) (size out : Int) (r n : List Int) (aL : Option Addr) (cL : Nat) (ar : Option Addr) (cr : Nat) (an : Option Addr) (cn : Nat) (w : World) (H : VF p L size out r n) (hV : WW p V L size out r n aL cL ar cr an cn w) (ia ib ic : Int) (hi : I64 ia /\ I64 ib /\ I64 ic) :
  Calls Tryz.prog 141 #[.pointer (some ⟨V, 0, none⟩), .agg #[.int .i64 7, .int .i64 ia, .int .i64 ib, .int .i64 ic], .int .i64 1] w fun e w' => e = .returned (.int .i64 (tvC p r 1 ⟨7, ia, ib, ic⟩)) /\ Below w.heap.size w w' := by
 have h3 := H.h3
 have h4 := H.h4
 have HEM := hemL H
 obtain ⟨hia, hib, hic⟩ := hi
 obtain ⟨W0, hW0⟩ := exE (w.alloc (.cells #[.int .i64 7, .int .i64 ia, .int .i64 ib, .int .i64 ic] 180))
 have hb0 := blA hW0
 replace hV := hV.below hb0
 have HB0 := hid hb0
 clear hb0
 obtain ⟨c0, c1, c2, c3, c4, c5⟩ := hV.cells
 have QP := qpL c0
 obtain ⟨br, orr, har, hrw⟩ := rowB_at hV.row H.hr
 subst har
 have r0 := hrw 0 (by omega)
 rw [Nat.add_zero] at r0
 have i0 := H.fr 0
 have l0 := llL H 0
 have l0' := llN H 0
 have r1 := hrw 1 (by omega)
 have i1 := H.fr 1
 have l1 := llL H 1
 have l1' := llN H 1
 clear hrw
 have HE : Hid (tvC p r 1 ⟨7, ia, ib, ic⟩ = (((zat r 0) + ib) % (p : Int))) := by
  unfold Hid
  rw [show tvC p r 1 ⟨7, ia, ib, ic⟩ = (zat r 0 + ib) % (p : Int) from rfl]
 obtain ⟨R, hR⟩ := exE (tvC p r 1 ⟨7, ia, ib, ic⟩)
 rw [<- hR] at HE ⊢
 clear hR
 have HC0 := hid (fun W h => wadd_any p V (zat r 0) ib W h3 h4 h i0 hib)
 clear i0 i1
 clear HEM H hV
 generalize (((zat r 0) + ib) % (p : Int)) = t1 at *
 generalize zat r 0 = x0 at *
 generalize zat r 1 = x1 at *
 generalize r.length = lr at *
 generalize L.length = nL at *
 subst hW0
 go_enter Tryz.func141, Tryz.ntmps141
 go_wp2_with fail
 refine (HC0.out _ c0).mono ?_
 rintro e w' ⟨rfl, hw'⟩
 have hw'' := hw'.symm
 subst hw''
 clear hw'
 go_wp2_with fail
 go_ret
 exact ⟨by have h := HE.out; subst h; rfl, HB0.out⟩
theorem wcell1_8 (p V : Nat) (L : List InsZ) (size out : Int) (r n : List Int) (aL : Option Addr) (cL : Nat) (ar : Option Addr) (cr : Nat) (an : Option Addr) (cn : Nat) (w : World) (H : VF p L size out r n) (hV : WW p V L size out r n aL cL ar cr an cn w) (ia ib ic : Int) (hi : I64 ia /\ I64 ib /\ I64 ic) :
  Calls Tryz.prog 141 #[.pointer (some ⟨V, 0, none⟩), .agg #[.int .i64 8, .int .i64 ia, .int .i64 ib, .int .i64 ic], .int .i64 1] w fun e w' => e = .returned (.int .i64 (tvC p r 1 ⟨8, ia, ib, ic⟩)) /\ Below w.heap.size w w' := by
 have h3 := H.h3
 have h4 := H.h4
 have HEM := hemL H
 obtain ⟨hia, hib, hic⟩ := hi
 obtain ⟨W0, hW0⟩ := exE (w.alloc (.cells #[.int .i64 8, .int .i64 ia, .int .i64 ib, .int .i64 ic] 180))
 have hb0 := blA hW0
 replace hV := hV.below hb0
 have HB0 := hid hb0
 clear hb0
 obtain ⟨c0, c1, c2, c3, c4, c5⟩ := hV.cells
 have QP := qpL c0
 obtain ⟨br, orr, har, hrw⟩ := rowB_at hV.row H.hr
 subst har
 have r0 := hrw 0 (by omega)
 rw [Nat.add_zero] at r0
 have i0 := H.fr 0
 have l0 := llL H 0
 have l0' := llN H 0
 have r1 := hrw 1 (by omega)
 have i1 := H.fr 1
 have l1 := llL H 1
 have l1' := llN H 1
 clear hrw
 have HE : Hid (tvC p r 1 ⟨8, ia, ib, ic⟩ = 0) := rfl
 obtain ⟨R, hR⟩ := exE (tvC p r 1 ⟨8, ia, ib, ic⟩)
 rw [<- hR] at HE ⊢
 clear hR
 clear i0 i1
 clear HEM H hV
 generalize zat r 0 = x0 at *
 generalize zat r 1 = x1 at *
 generalize r.length = lr at *
 generalize L.length = nL at *
 subst hW0
 go_enter Tryz.func141, Tryz.ntmps141
 go_wp2_with fail
 go_ret
 exact ⟨by have h := HE.out; subst h; rfl, HB0.out⟩
theorem wcell1_9 (p V : Nat) (L : List InsZ) (size out : Int) (r n : List Int) (aL : Option Addr) (cL : Nat) (ar : Option Addr) (cr : Nat) (an : Option Addr) (cn : Nat) (w : World) (H : VF p L size out r n) (hV : WW p V L size out r n aL cL ar cr an cn w) (ia ib ic : Int) (hi : I64 ia /\ I64 ib /\ I64 ic) :
  Calls Tryz.prog 141 #[.pointer (some ⟨V, 0, none⟩), .agg #[.int .i64 9, .int .i64 ia, .int .i64 ib, .int .i64 ic], .int .i64 1] w fun e w' => e = .returned (.int .i64 (tvC p r 1 ⟨9, ia, ib, ic⟩)) /\ Below w.heap.size w w' := by
 have h3 := H.h3
 have h4 := H.h4
 have HEM := hemL H
 obtain ⟨hia, hib, hic⟩ := hi
 obtain ⟨W0, hW0⟩ := exE (w.alloc (.cells #[.int .i64 9, .int .i64 ia, .int .i64 ib, .int .i64 ic] 180))
 have hb0 := blA hW0
 replace hV := hV.below hb0
 have HB0 := hid hb0
 clear hb0
 obtain ⟨c0, c1, c2, c3, c4, c5⟩ := hV.cells
 have QP := qpL c0
 obtain ⟨br, orr, har, hrw⟩ := rowB_at hV.row H.hr
 subst har
 have r0 := hrw 0 (by omega)
 rw [Nat.add_zero] at r0
 have i0 := H.fr 0
 have l0 := llL H 0
 have l0' := llN H 0
 have r1 := hrw 1 (by omega)
 have i1 := H.fr 1
 have l1 := llL H 1
 have l1' := llN H 1
 clear hrw
 have HE : Hid (tvC p r 1 ⟨9, ia, ib, ic⟩ = 0) := rfl
 obtain ⟨R, hR⟩ := exE (tvC p r 1 ⟨9, ia, ib, ic⟩)
 rw [<- hR] at HE ⊢
 clear hR
 clear i0 i1
 clear HEM H hV
 generalize zat r 0 = x0 at *
 generalize zat r 1 = x1 at *
 generalize r.length = lr at *
 generalize L.length = nL at *
 subst hW0
 go_enter Tryz.func141, Tryz.ntmps141
 go_wp2_with fail
 go_ret
 exact ⟨by have h := HE.out; subst h; rfl, HB0.out⟩
theorem wcell1_10 (p V : Nat) (L : List InsZ) (size out : Int) (r n : List Int) (aL : Option Addr) (cL : Nat) (ar : Option Addr) (cr : Nat) (an : Option Addr) (cn : Nat) (w : World) (H : VF p L size out r n) (hV : WW p V L size out r n aL cL ar cr an cn w) (ia ib ic : Int) (hi : I64 ia /\ I64 ib /\ I64 ic) :
  Calls Tryz.prog 141 #[.pointer (some ⟨V, 0, none⟩), .agg #[.int .i64 10, .int .i64 ia, .int .i64 ib, .int .i64 ic], .int .i64 1] w fun e w' => e = .returned (.int .i64 (tvC p r 1 ⟨10, ia, ib, ic⟩)) /\ Below w.heap.size w w' := by
 have h3 := H.h3
 have h4 := H.h4
 have HEM := hemL H
 obtain ⟨hia, hib, hic⟩ := hi
 obtain ⟨W0, hW0⟩ := exE (w.alloc (.cells #[.int .i64 10, .int .i64 ia, .int .i64 ib, .int .i64 ic] 180))
 have hb0 := blA hW0
 replace hV := hV.below hb0
 have HB0 := hid hb0
 clear hb0
 obtain ⟨c0, c1, c2, c3, c4, c5⟩ := hV.cells
 have QP := qpL c0
 obtain ⟨br, orr, har, hrw⟩ := rowB_at hV.row H.hr
 subst har
 have r0 := hrw 0 (by omega)
 rw [Nat.add_zero] at r0
 have i0 := H.fr 0
 have l0 := llL H 0
 have l0' := llN H 0
 have r1 := hrw 1 (by omega)
 have i1 := H.fr 1
 have l1 := llL H 1
 have l1' := llN H 1
 clear hrw
 have HE : Hid (tvC p r 1 ⟨10, ia, ib, ic⟩ = (((zat r 1) + (1 : Int)) % (p : Int))) := by
  unfold Hid
  rw [show tvC p r 1 ⟨10, ia, ib, ic⟩ = (zat r 1 + 1) % (p : Int) from rfl]
 obtain ⟨R, hR⟩ := exE (tvC p r 1 ⟨10, ia, ib, ic⟩)
 rw [<- hR] at HE ⊢
 clear hR
 have HC0 := hid (fun W h => wadd_any p V (zat r 1) (1 : Int) W h3 h4 h i1 (show I64 (1 : Int) by unfold I64; decide))
 clear i0 i1
 clear HEM H hV
 generalize (((zat r 1) + (1 : Int)) % (p : Int)) = t1 at *
 generalize zat r 0 = x0 at *
 generalize zat r 1 = x1 at *
 generalize r.length = lr at *
 generalize L.length = nL at *
 subst hW0
 go_enter Tryz.func141, Tryz.ntmps141
 go_wp2_with fail
 refine (HC0.out _ c0).mono ?_
 rintro e w' ⟨rfl, hw'⟩
 have hw'' := hw'.symm
 subst hw''
 clear hw'
 go_wp2_with fail
 go_ret
 exact ⟨by have h := HE.out; subst h; rfl, HB0.out⟩
theorem wcell1_11 (p V : Nat) (L : List InsZ) (size out : Int) (r n : List Int) (aL : Option Addr) (cL : Nat) (ar : Option Addr) (cr : Nat) (an : Option Addr) (cn : Nat) (w : World) (H : VF p L size out r n) (hV : WW p V L size out r n aL cL ar cr an cn w) (ia ib ic : Int) (hi : I64 ia /\ I64 ib /\ I64 ic) :
  Calls Tryz.prog 141 #[.pointer (some ⟨V, 0, none⟩), .agg #[.int .i64 11, .int .i64 ia, .int .i64 ib, .int .i64 ic], .int .i64 1] w fun e w' => e = .returned (.int .i64 (tvC p r 1 ⟨11, ia, ib, ic⟩)) /\ Below w.heap.size w w' := by
 have h3 := H.h3
 have h4 := H.h4
 have HEM := hemL H
 obtain ⟨hia, hib, hic⟩ := hi
 obtain ⟨W0, hW0⟩ := exE (w.alloc (.cells #[.int .i64 11, .int .i64 ia, .int .i64 ib, .int .i64 ic] 180))
 have hb0 := blA hW0
 replace hV := hV.below hb0
 have HB0 := hid hb0
 clear hb0
 obtain ⟨c0, c1, c2, c3, c4, c5⟩ := hV.cells
 have QP := qpL c0
 obtain ⟨br, orr, har, hrw⟩ := rowB_at hV.row H.hr
 subst har
 have r0 := hrw 0 (by omega)
 rw [Nat.add_zero] at r0
 have i0 := H.fr 0
 have l0 := llL H 0
 have l0' := llN H 0
 have r1 := hrw 1 (by omega)
 have i1 := H.fr 1
 have l1 := llL H 1
 have l1' := llN H 1
 clear hrw
 have HE : Hid (tvC p r 1 ⟨11, ia, ib, ic⟩ = (((zat r 0) + (-1 : Int)) % (p : Int))) := by
  unfold Hid
  rw [show tvC p r 1 ⟨11, ia, ib, ic⟩ = (zat r 0 - 1) % (p : Int) from rfl]
  rfl
 obtain ⟨R, hR⟩ := exE (tvC p r 1 ⟨11, ia, ib, ic⟩)
 rw [<- hR] at HE ⊢
 clear hR
 have HC0 := hid (fun W h => wadd_any p V (zat r 0) (-1 : Int) W h3 h4 h i0 (show I64 (-1 : Int) by unfold I64; decide))
 clear i0 i1
 clear HEM H hV
 generalize (((zat r 0) + (-1 : Int)) % (p : Int)) = t1 at *
 generalize zat r 0 = x0 at *
 generalize zat r 1 = x1 at *
 generalize r.length = lr at *
 generalize L.length = nL at *
 subst hW0
 go_enter Tryz.func141, Tryz.ntmps141
 go_wp2_with fail
 refine (HC0.out _ c0).mono ?_
 rintro e w' ⟨rfl, hw'⟩
 have hw'' := hw'.symm
 subst hw''
 clear hw'
 go_wp2_with fail
 go_ret
 exact ⟨by have h := HE.out; subst h; rfl, HB0.out⟩
theorem wcell1_12 (p V : Nat) (L : List InsZ) (size out : Int) (r n : List Int) (aL : Option Addr) (cL : Nat) (ar : Option Addr) (cr : Nat) (an : Option Addr) (cn : Nat) (w : World) (H : VF p L size out r n) (hV : WW p V L size out r n aL cL ar cr an cn w) (ia ib ic : Int) (hi : I64 ia /\ I64 ib /\ I64 ic) :
  Calls Tryz.prog 141 #[.pointer (some ⟨V, 0, none⟩), .agg #[.int .i64 12, .int .i64 ia, .int .i64 ib, .int .i64 ic], .int .i64 1] w fun e w' => e = .returned (.int .i64 (tvC p r 1 ⟨12, ia, ib, ic⟩)) /\ Below w.heap.size w w' := by
 have h3 := H.h3
 have h4 := H.h4
 have HEM := hemL H
 obtain ⟨hia, hib, hic⟩ := hi
 obtain ⟨W0, hW0⟩ := exE (w.alloc (.cells #[.int .i64 12, .int .i64 ia, .int .i64 ib, .int .i64 ic] 180))
 have hb0 := blA hW0
 replace hV := hV.below hb0
 have HB0 := hid hb0
 clear hb0
 obtain ⟨c0, c1, c2, c3, c4, c5⟩ := hV.cells
 have QP := qpL c0
 obtain ⟨br, orr, har, hrw⟩ := rowB_at hV.row H.hr
 subst har
 have r0 := hrw 0 (by omega)
 rw [Nat.add_zero] at r0
 have i0 := H.fr 0
 have l0 := llL H 0
 have l0' := llN H 0
 have r1 := hrw 1 (by omega)
 have i1 := H.fr 1
 have l1 := llL H 1
 have l1' := llN H 1
 clear hrw
 have HE : Hid (tvC p r 1 ⟨12, ia, ib, ic⟩ = 0) := rfl
 obtain ⟨R, hR⟩ := exE (tvC p r 1 ⟨12, ia, ib, ic⟩)
 rw [<- hR] at HE ⊢
 clear hR
 clear i0 i1
 clear HEM H hV
 generalize zat r 0 = x0 at *
 generalize zat r 1 = x1 at *
 generalize r.length = lr at *
 generalize L.length = nL at *
 subst hW0
 go_enter Tryz.func141, Tryz.ntmps141
 go_wp2_with fail
 go_ret
 exact ⟨by have h := HE.out; subst h; rfl, HB0.out⟩
theorem wcell1_13 (p V : Nat) (L : List InsZ) (size out : Int) (r n : List Int) (aL : Option Addr) (cL : Nat) (ar : Option Addr) (cr : Nat) (an : Option Addr) (cn : Nat) (w : World) (H : VF p L size out r n) (hV : WW p V L size out r n aL cL ar cr an cn w) (ia ib ic : Int) (hi : I64 ia /\ I64 ib /\ I64 ic) :
  Calls Tryz.prog 141 #[.pointer (some ⟨V, 0, none⟩), .agg #[.int .i64 13, .int .i64 ia, .int .i64 ib, .int .i64 ic], .int .i64 1] w fun e w' => e = .returned (.int .i64 (tvC p r 1 ⟨13, ia, ib, ic⟩)) /\ Below w.heap.size w w' := by
 have h3 := H.h3
 have h4 := H.h4
 have HEM := hemL H
 obtain ⟨hia, hib, hic⟩ := hi
 obtain ⟨W0, hW0⟩ := exE (w.alloc (.cells #[.int .i64 13, .int .i64 ia, .int .i64 ib, .int .i64 ic] 180))
 have hb0 := blA hW0
 replace hV := hV.below hb0
 have HB0 := hid hb0
 clear hb0
 obtain ⟨c0, c1, c2, c3, c4, c5⟩ := hV.cells
 have QP := qpL c0
 obtain ⟨br, orr, har, hrw⟩ := rowB_at hV.row H.hr
 subst har
 have r0 := hrw 0 (by omega)
 rw [Nat.add_zero] at r0
 have i0 := H.fr 0
 have l0 := llL H 0
 have l0' := llN H 0
 have r1 := hrw 1 (by omega)
 have i1 := H.fr 1
 have l1 := llL H 1
 have l1' := llN H 1
 clear hrw
 have HE : Hid (tvC p r 1 ⟨13, ia, ib, ic⟩ = (((((zat r 1) + (2 : Int)) % (p : Int)) + ib) % (p : Int))) := by
  unfold Hid
  rw [show tvC p r 1 ⟨13, ia, ib, ic⟩ = ((zat r 1 + 2) % (p : Int) + ib) % (p : Int) from rfl]
 obtain ⟨R, hR⟩ := exE (tvC p r 1 ⟨13, ia, ib, ic⟩)
 rw [<- hR] at HE ⊢
 clear hR
 have HC0 := hid (fun W h => wadd_any p V (zat r 1) (2 : Int) W h3 h4 h i1 (show I64 (2 : Int) by unfold I64; decide))
 have HC1 := hid (fun W h => wadd_any p V ((((zat r 1) + (2 : Int)) % (p : Int))) ib W h3 h4 h (HEM.out _) hib)
 clear i0 i1
 clear HEM H hV
 generalize (((((zat r 1) + (2 : Int)) % (p : Int)) + ib) % (p : Int)) = t2 at *
 generalize (((zat r 1) + (2 : Int)) % (p : Int)) = t1 at *
 generalize zat r 0 = x0 at *
 generalize zat r 1 = x1 at *
 generalize r.length = lr at *
 generalize L.length = nL at *
 subst hW0
 go_enter Tryz.func141, Tryz.ntmps141
 go_wp2_with fail
 refine (HC0.out _ c0).mono ?_
 rintro e w' ⟨rfl, hw'⟩
 have hw'' := hw'.symm
 subst hw''
 clear hw'
 go_wp2_with fail
 refine (HC1.out _ c0).mono ?_
 rintro e w' ⟨rfl, hw'⟩
 have hw'' := hw'.symm
 subst hw''
 clear hw'
 go_wp2_with fail
 go_ret
 exact ⟨by have h := HE.out; subst h; rfl, HB0.out⟩
theorem wcell1_x (p V : Nat) (L : List InsZ) (size out : Int) (r n : List Int) (aL : Option Addr) (cL : Nat) (ar : Option Addr) (cr : Nat) (an : Option Addr) (cn : Nat) (w : World) (H : VF p L size out r n) (hV : WW p V L size out r n aL cL ar cr an cn w) (ia ib ic : Int) (hi : I64 ia /\ I64 ib /\ I64 ic) (op : Int) (hno : op ≠ 0 /\ op ≠ 1 /\ op ≠ 2 /\ op ≠ 3 /\ op ≠ 4 /\ op ≠ 5 /\ op ≠ 6 /\ op ≠ 7 /\ op ≠ 9 /\ op ≠ 10 /\ op ≠ 11 /\ op ≠ 12 /\ op ≠ 13) :
  Calls Tryz.prog 141 #[.pointer (some ⟨V, 0, none⟩), .agg #[.int .i64 op, .int .i64 ia, .int .i64 ib, .int .i64 ic], .int .i64 1] w fun e w' => e = .returned (.int .i64 (tvC p r 1 ⟨op, ia, ib, ic⟩)) /\ Below w.heap.size w w' := by
 have h3 := H.h3
 have h4 := H.h4
 have HEM := hemL H
 obtain ⟨hia, hib, hic⟩ := hi
 obtain ⟨W0, hW0⟩ := exE (w.alloc (.cells #[.int .i64 op, .int .i64 ia, .int .i64 ib, .int .i64 ic] 180))
 have hb0 := blA hW0
 replace hV := hV.below hb0
 have HB0 := hid hb0
 clear hb0
 obtain ⟨c0, c1, c2, c3, c4, c5⟩ := hV.cells
 have QP := qpL c0
 obtain ⟨br, orr, har, hrw⟩ := rowB_at hV.row H.hr
 subst har
 have r0 := hrw 0 (by omega)
 rw [Nat.add_zero] at r0
 have i0 := H.fr 0
 have l0 := llL H 0
 have l0' := llN H 0
 have r1 := hrw 1 (by omega)
 have i1 := H.fr 1
 have l1 := llL H 1
 have l1' := llN H 1
 clear hrw
 have q0 : (op == 0) = false := by rw [beq_eq_false_iff_ne]; omega
 have q1 : (op == 1) = false := by rw [beq_eq_false_iff_ne]; omega
 have q2 : (op == 2) = false := by rw [beq_eq_false_iff_ne]; omega
 have q3 : (op == 3) = false := by rw [beq_eq_false_iff_ne]; omega
 have q4 : (op == 4) = false := by rw [beq_eq_false_iff_ne]; omega
 have q5 : (op == 5) = false := by rw [beq_eq_false_iff_ne]; omega
 have q6 : (op == 6) = false := by rw [beq_eq_false_iff_ne]; omega
 have q7 : (op == 7) = false := by rw [beq_eq_false_iff_ne]; omega
 have q9 : (op == 9) = false := by rw [beq_eq_false_iff_ne]; omega
 have q10 : (op == 10) = false := by rw [beq_eq_false_iff_ne]; omega
 have q11 : (op == 11) = false := by rw [beq_eq_false_iff_ne]; omega
 have q12 : (op == 12) = false := by rw [beq_eq_false_iff_ne]; omega
 have q13 : (op == 13) = false := by rw [beq_eq_false_iff_ne]; omega
 have HE : Hid (tvC p r 1 ⟨op, ia, ib, ic⟩ = 0) := by unfold Hid; simp [tvC, cel3, hno]
 obtain ⟨R, hR⟩ := exE (tvC p r 1 ⟨op, ia, ib, ic⟩)
 rw [<- hR] at HE ⊢
 clear hR
 clear i0 i1
 clear HEM H hV
 generalize zat r 0 = x0 at *
 generalize zat r 1 = x1 at *
 generalize r.length = lr at *
 generalize L.length = nL at *
 subst hW0
 go_enter Tryz.func141, Tryz.ntmps141
 go_wp2_with fail
 go_ret
 exact ⟨by have h := HE.out; subst h; rfl, HB0.out⟩
theorem wcell2_0 (p V : Nat) (L : List InsZ) (size out : Int) (r n : List Int) (aL : Option Addr) (cL : Nat) (ar : Option Addr) (cr : Nat) (an : Option Addr) (cn : Nat) (w : World) (H : VF p L size out r n) (hV : WW p V L size out r n aL cL ar cr an cn w) (ia ib ic : Int) (hi : I64 ia /\ I64 ib /\ I64 ic) :
  Calls Tryz.prog 141 #[.pointer (some ⟨V, 0, none⟩), .agg #[.int .i64 0, .int .i64 ia, .int .i64 ib, .int .i64 ic], .int .i64 2] w fun e w' => e = .returned (.int .i64 (tvC p r 2 ⟨0, ia, ib, ic⟩)) /\ Below w.heap.size w w' := by
 have h3 := H.h3
 have h4 := H.h4
 have HEM := hemL H
 obtain ⟨hia, hib, hic⟩ := hi
 obtain ⟨W0, hW0⟩ := exE (w.alloc (.cells #[.int .i64 0, .int .i64 ia, .int .i64 ib, .int .i64 ic] 180))
 have hb0 := blA hW0
 replace hV := hV.below hb0
 have HB0 := hid hb0
 clear hb0
 obtain ⟨c0, c1, c2, c3, c4, c5⟩ := hV.cells
 have QP := qpL c0
 obtain ⟨br, orr, har, hrw⟩ := rowB_at hV.row H.hr
 subst har
 have r0 := hrw 0 (by omega)
 rw [Nat.add_zero] at r0
 have i0 := H.fr 0
 have l0 := llL H 0
 have l0' := llN H 0
 have r1 := hrw 1 (by omega)
 have i1 := H.fr 1
 have l1 := llL H 1
 have l1' := llN H 1
 clear hrw
 have HE : Hid (tvC p r 2 ⟨0, ia, ib, ic⟩ = 0) := rfl
 obtain ⟨R, hR⟩ := exE (tvC p r 2 ⟨0, ia, ib, ic⟩)
 rw [<- hR] at HE ⊢
 clear hR
 clear i0 i1
 clear HEM H hV
 generalize zat r 0 = x0 at *
 generalize zat r 1 = x1 at *
 generalize r.length = lr at *
 generalize L.length = nL at *
 subst hW0
 go_enter Tryz.func141, Tryz.ntmps141
 go_wp2_with fail
 go_ret
 exact ⟨by have h := HE.out; subst h; rfl, HB0.out⟩
theorem wcell2_1 (p V : Nat) (L : List InsZ) (size out : Int) (r n : List Int) (aL : Option Addr) (cL : Nat) (ar : Option Addr) (cr : Nat) (an : Option Addr) (cn : Nat) (w : World) (H : VF p L size out r n) (hV : WW p V L size out r n aL cL ar cr an cn w) (ia ib ic : Int) (hi : I64 ia /\ I64 ib /\ I64 ic) :
  Calls Tryz.prog 141 #[.pointer (some ⟨V, 0, none⟩), .agg #[.int .i64 1, .int .i64 ia, .int .i64 ib, .int .i64 ic], .int .i64 2] w fun e w' => e = .returned (.int .i64 (tvC p r 2 ⟨1, ia, ib, ic⟩)) /\ Below w.heap.size w w' := by
 have h3 := H.h3
 have h4 := H.h4
 have HEM := hemL H
 obtain ⟨hia, hib, hic⟩ := hi
 obtain ⟨W0, hW0⟩ := exE (w.alloc (.cells #[.int .i64 1, .int .i64 ia, .int .i64 ib, .int .i64 ic] 180))
 have hb0 := blA hW0
 replace hV := hV.below hb0
 have HB0 := hid hb0
 clear hb0
 obtain ⟨c0, c1, c2, c3, c4, c5⟩ := hV.cells
 have QP := qpL c0
 obtain ⟨br, orr, har, hrw⟩ := rowB_at hV.row H.hr
 subst har
 have r0 := hrw 0 (by omega)
 rw [Nat.add_zero] at r0
 have i0 := H.fr 0
 have l0 := llL H 0
 have l0' := llN H 0
 have r1 := hrw 1 (by omega)
 have i1 := H.fr 1
 have l1 := llL H 1
 have l1' := llN H 1
 clear hrw
 have HE : Hid (tvC p r 2 ⟨1, ia, ib, ic⟩ = (((zat r 0) + ic) % (p : Int))) := by
  unfold Hid
  rw [show tvC p r 2 ⟨1, ia, ib, ic⟩ = (zat r 0 + ic) % (p : Int) from rfl]
 obtain ⟨R, hR⟩ := exE (tvC p r 2 ⟨1, ia, ib, ic⟩)
 rw [<- hR] at HE ⊢
 clear hR
 have HC0 := hid (fun W h => wadd_any p V (zat r 0) ic W h3 h4 h i0 hic)
 clear i0 i1
 clear HEM H hV
 generalize (((zat r 0) + ic) % (p : Int)) = t1 at *
 generalize zat r 0 = x0 at *
 generalize zat r 1 = x1 at *
 generalize r.length = lr at *
 generalize L.length = nL at *
 subst hW0
 go_enter Tryz.func141, Tryz.ntmps141
 go_wp2_with fail
 refine (HC0.out _ c0).mono ?_
 rintro e w' ⟨rfl, hw'⟩
 have hw'' := hw'.symm
 subst hw''
 clear hw'
 go_wp2_with fail
 go_ret
 exact ⟨by have h := HE.out; subst h; rfl, HB0.out⟩
theorem wcell2_2 (p V : Nat) (L : List InsZ) (size out : Int) (r n : List Int) (aL : Option Addr) (cL : Nat) (ar : Option Addr) (cr : Nat) (an : Option Addr) (cn : Nat) (w : World) (H : VF p L size out r n) (hV : WW p V L size out r n aL cL ar cr an cn w) (ia ib ic : Int) (hi : I64 ia /\ I64 ib /\ I64 ic) :
  Calls Tryz.prog 141 #[.pointer (some ⟨V, 0, none⟩), .agg #[.int .i64 2, .int .i64 ia, .int .i64 ib, .int .i64 ic], .int .i64 2] w fun e w' => e = .returned (.int .i64 (tvC p r 2 ⟨2, ia, ib, ic⟩)) /\ Below w.heap.size w w' := by
 have h3 := H.h3
 have h4 := H.h4
 have HEM := hemL H
 obtain ⟨hia, hib, hic⟩ := hi
 obtain ⟨W0, hW0⟩ := exE (w.alloc (.cells #[.int .i64 2, .int .i64 ia, .int .i64 ib, .int .i64 ic] 180))
 have hb0 := blA hW0
 replace hV := hV.below hb0
 have HB0 := hid hb0
 clear hb0
 obtain ⟨c0, c1, c2, c3, c4, c5⟩ := hV.cells
 have QP := qpL c0
 obtain ⟨br, orr, har, hrw⟩ := rowB_at hV.row H.hr
 subst har
 have r0 := hrw 0 (by omega)
 rw [Nat.add_zero] at r0
 have i0 := H.fr 0
 have l0 := llL H 0
 have l0' := llN H 0
 have r1 := hrw 1 (by omega)
 have i1 := H.fr 1
 have l1 := llL H 1
 have l1' := llN H 1
 clear hrw
 have HE : Hid (tvC p r 2 ⟨2, ia, ib, ic⟩ = (((zat r 0) + ic) % (p : Int))) := by
  unfold Hid
  rw [show tvC p r 2 ⟨2, ia, ib, ic⟩ = (zat r 0 + ic) % (p : Int) from rfl]
 obtain ⟨R, hR⟩ := exE (tvC p r 2 ⟨2, ia, ib, ic⟩)
 rw [<- hR] at HE ⊢
 clear hR
 have HC0 := hid (fun W h => wadd_any p V (zat r 0) ic W h3 h4 h i0 hic)
 clear i0 i1
 clear HEM H hV
 generalize (((zat r 0) + ic) % (p : Int)) = t1 at *
 generalize zat r 0 = x0 at *
 generalize zat r 1 = x1 at *
 generalize r.length = lr at *
 generalize L.length = nL at *
 subst hW0
 go_enter Tryz.func141, Tryz.ntmps141
 go_wp2_with fail
 refine (HC0.out _ c0).mono ?_
 rintro e w' ⟨rfl, hw'⟩
 have hw'' := hw'.symm
 subst hw''
 clear hw'
 go_wp2_with fail
 go_ret
 exact ⟨by have h := HE.out; subst h; rfl, HB0.out⟩
theorem wcell2_3 (p V : Nat) (L : List InsZ) (size out : Int) (r n : List Int) (aL : Option Addr) (cL : Nat) (ar : Option Addr) (cr : Nat) (an : Option Addr) (cn : Nat) (w : World) (H : VF p L size out r n) (hV : WW p V L size out r n aL cL ar cr an cn w) (ia ib ic : Int) (hi : I64 ia /\ I64 ib /\ I64 ic) :
  Calls Tryz.prog 141 #[.pointer (some ⟨V, 0, none⟩), .agg #[.int .i64 3, .int .i64 ia, .int .i64 ib, .int .i64 ic], .int .i64 2] w fun e w' => e = .returned (.int .i64 (tvC p r 2 ⟨3, ia, ib, ic⟩)) /\ Below w.heap.size w w' := by
 have h3 := H.h3
 have h4 := H.h4
 have HEM := hemL H
 obtain ⟨hia, hib, hic⟩ := hi
 obtain ⟨W0, hW0⟩ := exE (w.alloc (.cells #[.int .i64 3, .int .i64 ia, .int .i64 ib, .int .i64 ic] 180))
 have hb0 := blA hW0
 replace hV := hV.below hb0
 have HB0 := hid hb0
 clear hb0
 obtain ⟨c0, c1, c2, c3, c4, c5⟩ := hV.cells
 have QP := qpL c0
 obtain ⟨br, orr, har, hrw⟩ := rowB_at hV.row H.hr
 subst har
 have r0 := hrw 0 (by omega)
 rw [Nat.add_zero] at r0
 have i0 := H.fr 0
 have l0 := llL H 0
 have l0' := llN H 0
 have r1 := hrw 1 (by omega)
 have i1 := H.fr 1
 have l1 := llL H 1
 have l1' := llN H 1
 clear hrw
 have HE : Hid (tvC p r 2 ⟨3, ia, ib, ic⟩ = (((zat r 0) + ic) % (p : Int))) := by
  unfold Hid
  rw [show tvC p r 2 ⟨3, ia, ib, ic⟩ = (zat r 0 + ic) % (p : Int) from rfl]
 obtain ⟨R, hR⟩ := exE (tvC p r 2 ⟨3, ia, ib, ic⟩)
 rw [<- hR] at HE ⊢
 clear hR
 have HC0 := hid (fun W h => wadd_any p V (zat r 0) ic W h3 h4 h i0 hic)
 clear i0 i1
 clear HEM H hV
 generalize (((zat r 0) + ic) % (p : Int)) = t1 at *
 generalize zat r 0 = x0 at *
 generalize zat r 1 = x1 at *
 generalize r.length = lr at *
 generalize L.length = nL at *
 subst hW0
 go_enter Tryz.func141, Tryz.ntmps141
 go_wp2_with fail
 refine (HC0.out _ c0).mono ?_
 rintro e w' ⟨rfl, hw'⟩
 have hw'' := hw'.symm
 subst hw''
 clear hw'
 go_wp2_with fail
 go_ret
 exact ⟨by have h := HE.out; subst h; rfl, HB0.out⟩
theorem wcell2_4 (p V : Nat) (L : List InsZ) (size out : Int) (r n : List Int) (aL : Option Addr) (cL : Nat) (ar : Option Addr) (cr : Nat) (an : Option Addr) (cn : Nat) (w : World) (H : VF p L size out r n) (hV : WW p V L size out r n aL cL ar cr an cn w) (ia ib ic : Int) (hi : I64 ia /\ I64 ib /\ I64 ic) :
  Calls Tryz.prog 141 #[.pointer (some ⟨V, 0, none⟩), .agg #[.int .i64 4, .int .i64 ia, .int .i64 ib, .int .i64 ic], .int .i64 2] w fun e w' => e = .returned (.int .i64 (tvC p r 2 ⟨4, ia, ib, ic⟩)) /\ Below w.heap.size w w' := by
 have h3 := H.h3
 have h4 := H.h4
 have HEM := hemL H
 obtain ⟨hia, hib, hic⟩ := hi
 obtain ⟨W0, hW0⟩ := exE (w.alloc (.cells #[.int .i64 4, .int .i64 ia, .int .i64 ib, .int .i64 ic] 180))
 have hb0 := blA hW0
 replace hV := hV.below hb0
 have HB0 := hid hb0
 clear hb0
 obtain ⟨c0, c1, c2, c3, c4, c5⟩ := hV.cells
 have QP := qpL c0
 obtain ⟨br, orr, har, hrw⟩ := rowB_at hV.row H.hr
 subst har
 have r0 := hrw 0 (by omega)
 rw [Nat.add_zero] at r0
 have i0 := H.fr 0
 have l0 := llL H 0
 have l0' := llN H 0
 have r1 := hrw 1 (by omega)
 have i1 := H.fr 1
 have l1 := llL H 1
 have l1' := llN H 1
 clear hrw
 have HE : Hid (tvC p r 2 ⟨4, ia, ib, ic⟩ = (((zat r 0) + ic) % (p : Int))) := by
  unfold Hid
  rw [show tvC p r 2 ⟨4, ia, ib, ic⟩ = (zat r 0 + ic) % (p : Int) from rfl]
 obtain ⟨R, hR⟩ := exE (tvC p r 2 ⟨4, ia, ib, ic⟩)
 rw [<- hR] at HE ⊢
 clear hR
 have HC0 := hid (fun W h => wadd_any p V (zat r 0) ic W h3 h4 h i0 hic)
 clear i0 i1
 clear HEM H hV
 generalize (((zat r 0) + ic) % (p : Int)) = t1 at *
 generalize zat r 0 = x0 at *
 generalize zat r 1 = x1 at *
 generalize r.length = lr at *
 generalize L.length = nL at *
 subst hW0
 go_enter Tryz.func141, Tryz.ntmps141
 go_wp2_with fail
 refine (HC0.out _ c0).mono ?_
 rintro e w' ⟨rfl, hw'⟩
 have hw'' := hw'.symm
 subst hw''
 clear hw'
 go_wp2_with fail
 go_ret
 exact ⟨by have h := HE.out; subst h; rfl, HB0.out⟩
theorem wcell2_5 (p V : Nat) (L : List InsZ) (size out : Int) (r n : List Int) (aL : Option Addr) (cL : Nat) (ar : Option Addr) (cr : Nat) (an : Option Addr) (cn : Nat) (w : World) (H : VF p L size out r n) (hV : WW p V L size out r n aL cL ar cr an cn w) (ia ib ic : Int) (hi : I64 ia /\ I64 ib /\ I64 ic) :
  Calls Tryz.prog 141 #[.pointer (some ⟨V, 0, none⟩), .agg #[.int .i64 5, .int .i64 ia, .int .i64 ib, .int .i64 ic], .int .i64 2] w fun e w' => e = .returned (.int .i64 (tvC p r 2 ⟨5, ia, ib, ic⟩)) /\ Below w.heap.size w w' := by
 have h3 := H.h3
 have h4 := H.h4
 have HEM := hemL H
 obtain ⟨hia, hib, hic⟩ := hi
 obtain ⟨W0, hW0⟩ := exE (w.alloc (.cells #[.int .i64 5, .int .i64 ia, .int .i64 ib, .int .i64 ic] 180))
 have hb0 := blA hW0
 replace hV := hV.below hb0
 have HB0 := hid hb0
 clear hb0
 obtain ⟨c0, c1, c2, c3, c4, c5⟩ := hV.cells
 have QP := qpL c0
 obtain ⟨br, orr, har, hrw⟩ := rowB_at hV.row H.hr
 subst har
 have r0 := hrw 0 (by omega)
 rw [Nat.add_zero] at r0
 have i0 := H.fr 0
 have l0 := llL H 0
 have l0' := llN H 0
 have r1 := hrw 1 (by omega)
 have i1 := H.fr 1
 have l1 := llL H 1
 have l1' := llN H 1
 clear hrw
 have HE : Hid (tvC p r 2 ⟨5, ia, ib, ic⟩ = 0) := rfl
 obtain ⟨R, hR⟩ := exE (tvC p r 2 ⟨5, ia, ib, ic⟩)
 rw [<- hR] at HE ⊢
 clear hR
 clear i0 i1
 clear HEM H hV
 generalize zat r 0 = x0 at *
 generalize zat r 1 = x1 at *
 generalize r.length = lr at *
 generalize L.length = nL at *
 subst hW0
 go_enter Tryz.func141, Tryz.ntmps141
 go_wp2_with fail
 go_ret
 exact ⟨by have h := HE.out; subst h; rfl, HB0.out⟩
theorem wcell2_6 (p V : Nat) (L : List InsZ) (size out : Int) (r n : List Int) (aL : Option Addr) (cL : Nat) (ar : Option Addr) (cr : Nat) (an : Option Addr) (cn : Nat) (w : World) (H : VF p L size out r n) (hV : WW p V L size out r n aL cL ar cr an cn w) (ia ib ic : Int) (hi : I64 ia /\ I64 ib /\ I64 ic) :
  Calls Tryz.prog 141 #[.pointer (some ⟨V, 0, none⟩), .agg #[.int .i64 6, .int .i64 ia, .int .i64 ib, .int .i64 ic], .int .i64 2] w fun e w' => e = .returned (.int .i64 (tvC p r 2 ⟨6, ia, ib, ic⟩)) /\ Below w.heap.size w w' := by
 have h3 := H.h3
 have h4 := H.h4
 have HEM := hemL H
 obtain ⟨hia, hib, hic⟩ := hi
 obtain ⟨W0, hW0⟩ := exE (w.alloc (.cells #[.int .i64 6, .int .i64 ia, .int .i64 ib, .int .i64 ic] 180))
 have hb0 := blA hW0
 replace hV := hV.below hb0
 have HB0 := hid hb0
 clear hb0
 obtain ⟨c0, c1, c2, c3, c4, c5⟩ := hV.cells
 have QP := qpL c0
 obtain ⟨br, orr, har, hrw⟩ := rowB_at hV.row H.hr
 subst har
 have r0 := hrw 0 (by omega)
 rw [Nat.add_zero] at r0
 have i0 := H.fr 0
 have l0 := llL H 0
 have l0' := llN H 0
 have r1 := hrw 1 (by omega)
 have i1 := H.fr 1
 have l1 := llL H 1
 have l1' := llN H 1
 clear hrw
 have HE : Hid (tvC p r 2 ⟨6, ia, ib, ic⟩ = (((zat r 0) + ic) % (p : Int))) := by
  unfold Hid
  rw [show tvC p r 2 ⟨6, ia, ib, ic⟩ = (zat r 0 + ic) % (p : Int) from rfl]
 obtain ⟨R, hR⟩ := exE (tvC p r 2 ⟨6, ia, ib, ic⟩)
 rw [<- hR] at HE ⊢
 clear hR
 have HC0 := hid (fun W h => wadd_any p V (zat r 0) ic W h3 h4 h i0 hic)
 clear i0 i1
 clear HEM H hV
 generalize (((zat r 0) + ic) % (p : Int)) = t1 at *
 generalize zat r 0 = x0 at *
 generalize zat r 1 = x1 at *
 generalize r.length = lr at *
 generalize L.length = nL at *
 subst hW0
 go_enter Tryz.func141, Tryz.ntmps141
 go_wp2_with fail
 refine (HC0.out _ c0).mono ?_
 rintro e w' ⟨rfl, hw'⟩
 have hw'' := hw'.symm
 subst hw''
 clear hw'
 go_wp2_with fail
 go_ret
 exact ⟨by have h := HE.out; subst h; rfl, HB0.out⟩
theorem wcell2_7 (p V : Nat) (L : List InsZ) (size out : Int) (r n : List Int) (aL : Option Addr) (cL : Nat) (ar : Option Addr) (cr : Nat) (an : Option Addr) (cn : Nat) (w : World) (H : VF p L size out r n) (hV : WW p V L size out r n aL cL ar cr an cn w) (ia ib ic : Int) (hi : I64 ia /\ I64 ib /\ I64 ic) :
  Calls Tryz.prog 141 #[.pointer (some ⟨V, 0, none⟩), .agg #[.int .i64 7, .int .i64 ia, .int .i64 ib, .int .i64 ic], .int .i64 2] w fun e w' => e = .returned (.int .i64 (tvC p r 2 ⟨7, ia, ib, ic⟩)) /\ Below w.heap.size w w' := by
 have h3 := H.h3
 have h4 := H.h4
 have HEM := hemL H
 obtain ⟨hia, hib, hic⟩ := hi
 obtain ⟨W0, hW0⟩ := exE (w.alloc (.cells #[.int .i64 7, .int .i64 ia, .int .i64 ib, .int .i64 ic] 180))
 have hb0 := blA hW0
 replace hV := hV.below hb0
 have HB0 := hid hb0
 clear hb0
 obtain ⟨c0, c1, c2, c3, c4, c5⟩ := hV.cells
 have QP := qpL c0
 obtain ⟨br, orr, har, hrw⟩ := rowB_at hV.row H.hr
 subst har
 have r0 := hrw 0 (by omega)
 rw [Nat.add_zero] at r0
 have i0 := H.fr 0
 have l0 := llL H 0
 have l0' := llN H 0
 have r1 := hrw 1 (by omega)
 have i1 := H.fr 1
 have l1 := llL H 1
 have l1' := llN H 1
 clear hrw
 have HE : Hid (tvC p r 2 ⟨7, ia, ib, ic⟩ = 0) := rfl
 obtain ⟨R, hR⟩ := exE (tvC p r 2 ⟨7, ia, ib, ic⟩)
 rw [<- hR] at HE ⊢
 clear hR
 clear i0 i1
 clear HEM H hV
 generalize zat r 0 = x0 at *
 generalize zat r 1 = x1 at *
 generalize r.length = lr at *
 generalize L.length = nL at *
 subst hW0
 go_enter Tryz.func141, Tryz.ntmps141
 go_wp2_with fail
 go_ret
 exact ⟨by have h := HE.out; subst h; rfl, HB0.out⟩
theorem wcell2_8 (p V : Nat) (L : List InsZ) (size out : Int) (r n : List Int) (aL : Option Addr) (cL : Nat) (ar : Option Addr) (cr : Nat) (an : Option Addr) (cn : Nat) (w : World) (H : VF p L size out r n) (hV : WW p V L size out r n aL cL ar cr an cn w) (ia ib ic : Int) (hi : I64 ia /\ I64 ib /\ I64 ic) :
  Calls Tryz.prog 141 #[.pointer (some ⟨V, 0, none⟩), .agg #[.int .i64 8, .int .i64 ia, .int .i64 ib, .int .i64 ic], .int .i64 2] w fun e w' => e = .returned (.int .i64 (tvC p r 2 ⟨8, ia, ib, ic⟩)) /\ Below w.heap.size w w' := by
 have h3 := H.h3
 have h4 := H.h4
 have HEM := hemL H
 obtain ⟨hia, hib, hic⟩ := hi
 obtain ⟨W0, hW0⟩ := exE (w.alloc (.cells #[.int .i64 8, .int .i64 ia, .int .i64 ib, .int .i64 ic] 180))
 have hb0 := blA hW0
 replace hV := hV.below hb0
 have HB0 := hid hb0
 clear hb0
 obtain ⟨c0, c1, c2, c3, c4, c5⟩ := hV.cells
 have QP := qpL c0
 obtain ⟨br, orr, har, hrw⟩ := rowB_at hV.row H.hr
 subst har
 have r0 := hrw 0 (by omega)
 rw [Nat.add_zero] at r0
 have i0 := H.fr 0
 have l0 := llL H 0
 have l0' := llN H 0
 have r1 := hrw 1 (by omega)
 have i1 := H.fr 1
 have l1 := llL H 1
 have l1' := llN H 1
 clear hrw
 have HE : Hid (tvC p r 2 ⟨8, ia, ib, ic⟩ = 0) := rfl
 obtain ⟨R, hR⟩ := exE (tvC p r 2 ⟨8, ia, ib, ic⟩)
 rw [<- hR] at HE ⊢
 clear hR
 clear i0 i1
 clear HEM H hV
 generalize zat r 0 = x0 at *
 generalize zat r 1 = x1 at *
 generalize r.length = lr at *
 generalize L.length = nL at *
 subst hW0
 go_enter Tryz.func141, Tryz.ntmps141
 go_wp2_with fail
 go_ret
 exact ⟨by have h := HE.out; subst h; rfl, HB0.out⟩
theorem wcell2_9 (p V : Nat) (L : List InsZ) (size out : Int) (r n : List Int) (aL : Option Addr) (cL : Nat) (ar : Option Addr) (cr : Nat) (an : Option Addr) (cn : Nat) (w : World) (H : VF p L size out r n) (hV : WW p V L size out r n aL cL ar cr an cn w) (ia ib ic : Int) (hi : I64 ia /\ I64 ib /\ I64 ic) :
  Calls Tryz.prog 141 #[.pointer (some ⟨V, 0, none⟩), .agg #[.int .i64 9, .int .i64 ia, .int .i64 ib, .int .i64 ic], .int .i64 2] w fun e w' => e = .returned (.int .i64 (tvC p r 2 ⟨9, ia, ib, ic⟩)) /\ Below w.heap.size w w' := by
 have h3 := H.h3
 have h4 := H.h4
 have HEM := hemL H
 obtain ⟨hia, hib, hic⟩ := hi
 obtain ⟨W0, hW0⟩ := exE (w.alloc (.cells #[.int .i64 9, .int .i64 ia, .int .i64 ib, .int .i64 ic] 180))
 have hb0 := blA hW0
 replace hV := hV.below hb0
 have HB0 := hid hb0
 clear hb0
 obtain ⟨c0, c1, c2, c3, c4, c5⟩ := hV.cells
 have QP := qpL c0
 obtain ⟨br, orr, har, hrw⟩ := rowB_at hV.row H.hr
 subst har
 have r0 := hrw 0 (by omega)
 rw [Nat.add_zero] at r0
 have i0 := H.fr 0
 have l0 := llL H 0
 have l0' := llN H 0
 have r1 := hrw 1 (by omega)
 have i1 := H.fr 1
 have l1 := llL H 1
 have l1' := llN H 1
 clear hrw
 have HE : Hid (tvC p r 2 ⟨9, ia, ib, ic⟩ = 0) := rfl
 obtain ⟨R, hR⟩ := exE (tvC p r 2 ⟨9, ia, ib, ic⟩)
 rw [<- hR] at HE ⊢
 clear hR
 clear i0 i1
 clear HEM H hV
 generalize zat r 0 = x0 at *
 generalize zat r 1 = x1 at *
 generalize r.length = lr at *
 generalize L.length = nL at *
 subst hW0
 go_enter Tryz.func141, Tryz.ntmps141
 go_wp2_with fail
 go_ret
 exact ⟨by have h := HE.out; subst h; rfl, HB0.out⟩
theorem wcell2_10 (p V : Nat) (L : List InsZ) (size out : Int) (r n : List Int) (aL : Option Addr) (cL : Nat) (ar : Option Addr) (cr : Nat) (an : Option Addr) (cn : Nat) (w : World) (H : VF p L size out r n) (hV : WW p V L size out r n aL cL ar cr an cn w) (ia ib ic : Int) (hi : I64 ia /\ I64 ib /\ I64 ic) :
  Calls Tryz.prog 141 #[.pointer (some ⟨V, 0, none⟩), .agg #[.int .i64 10, .int .i64 ia, .int .i64 ib, .int .i64 ic], .int .i64 2] w fun e w' => e = .returned (.int .i64 (tvC p r 2 ⟨10, ia, ib, ic⟩)) /\ Below w.heap.size w w' := by
 have h3 := H.h3
 have h4 := H.h4
 have HEM := hemL H
 obtain ⟨hia, hib, hic⟩ := hi
 obtain ⟨W0, hW0⟩ := exE (w.alloc (.cells #[.int .i64 10, .int .i64 ia, .int .i64 ib, .int .i64 ic] 180))
 have hb0 := blA hW0
 replace hV := hV.below hb0
 have HB0 := hid hb0
 clear hb0
 obtain ⟨c0, c1, c2, c3, c4, c5⟩ := hV.cells
 have QP := qpL c0
 obtain ⟨br, orr, har, hrw⟩ := rowB_at hV.row H.hr
 subst har
 have r0 := hrw 0 (by omega)
 rw [Nat.add_zero] at r0
 have i0 := H.fr 0
 have l0 := llL H 0
 have l0' := llN H 0
 have r1 := hrw 1 (by omega)
 have i1 := H.fr 1
 have l1 := llL H 1
 have l1' := llN H 1
 clear hrw
 have HE : Hid (tvC p r 2 ⟨10, ia, ib, ic⟩ = 0) := rfl
 obtain ⟨R, hR⟩ := exE (tvC p r 2 ⟨10, ia, ib, ic⟩)
 rw [<- hR] at HE ⊢
 clear hR
 clear i0 i1
 clear HEM H hV
 generalize zat r 0 = x0 at *
 generalize zat r 1 = x1 at *
 generalize r.length = lr at *
 generalize L.length = nL at *
 subst hW0
 go_enter Tryz.func141, Tryz.ntmps141
 go_wp2_with fail
 go_ret
 exact ⟨by have h := HE.out; subst h; rfl, HB0.out⟩
theorem wcell2_11 (p V : Nat) (L : List InsZ) (size out : Int) (r n : List Int) (aL : Option Addr) (cL : Nat) (ar : Option Addr) (cr : Nat) (an : Option Addr) (cn : Nat) (w : World) (H : VF p L size out r n) (hV : WW p V L size out r n aL cL ar cr an cn w) (ia ib ic : Int) (hi : I64 ia /\ I64 ib /\ I64 ic) :
  Calls Tryz.prog 141 #[.pointer (some ⟨V, 0, none⟩), .agg #[.int .i64 11, .int .i64 ia, .int .i64 ib, .int .i64 ic], .int .i64 2] w fun e w' => e = .returned (.int .i64 (tvC p r 2 ⟨11, ia, ib, ic⟩)) /\ Below w.heap.size w w' := by
 have h3 := H.h3
 have h4 := H.h4
 have HEM := hemL H
 obtain ⟨hia, hib, hic⟩ := hi
 obtain ⟨W0, hW0⟩ := exE (w.alloc (.cells #[.int .i64 11, .int .i64 ia, .int .i64 ib, .int .i64 ic] 180))
 have hb0 := blA hW0
 replace hV := hV.below hb0
 have HB0 := hid hb0
 clear hb0
 obtain ⟨c0, c1, c2, c3, c4, c5⟩ := hV.cells
 have QP := qpL c0
 obtain ⟨br, orr, har, hrw⟩ := rowB_at hV.row H.hr
 subst har
 have r0 := hrw 0 (by omega)
 rw [Nat.add_zero] at r0
 have i0 := H.fr 0
 have l0 := llL H 0
 have l0' := llN H 0
 have r1 := hrw 1 (by omega)
 have i1 := H.fr 1
 have l1 := llL H 1
 have l1' := llN H 1
 clear hrw
 have HE : Hid (tvC p r 2 ⟨11, ia, ib, ic⟩ = (((zat r 0) + ia) % (p : Int))) := by
  unfold Hid
  rw [show tvC p r 2 ⟨11, ia, ib, ic⟩ = (zat r 0 + ia) % (p : Int) from rfl]
 obtain ⟨R, hR⟩ := exE (tvC p r 2 ⟨11, ia, ib, ic⟩)
 rw [<- hR] at HE ⊢
 clear hR
 have HC0 := hid (fun W h => wadd_any p V (zat r 0) ia W h3 h4 h i0 hia)
 clear i0 i1
 clear HEM H hV
 generalize (((zat r 0) + ia) % (p : Int)) = t1 at *
 generalize zat r 0 = x0 at *
 generalize zat r 1 = x1 at *
 generalize r.length = lr at *
 generalize L.length = nL at *
 subst hW0
 go_enter Tryz.func141, Tryz.ntmps141
 go_wp2_with fail
 refine (HC0.out _ c0).mono ?_
 rintro e w' ⟨rfl, hw'⟩
 have hw'' := hw'.symm
 subst hw''
 clear hw'
 go_wp2_with fail
 go_ret
 exact ⟨by have h := HE.out; subst h; rfl, HB0.out⟩
theorem wcell2_12 (p V : Nat) (L : List InsZ) (size out : Int) (r n : List Int) (aL : Option Addr) (cL : Nat) (ar : Option Addr) (cr : Nat) (an : Option Addr) (cn : Nat) (w : World) (H : VF p L size out r n) (hV : WW p V L size out r n aL cL ar cr an cn w) (ia ib ic : Int) (hi : I64 ia /\ I64 ib /\ I64 ic) :
  Calls Tryz.prog 141 #[.pointer (some ⟨V, 0, none⟩), .agg #[.int .i64 12, .int .i64 ia, .int .i64 ib, .int .i64 ic], .int .i64 2] w fun e w' => e = .returned (.int .i64 (tvC p r 2 ⟨12, ia, ib, ic⟩)) /\ Below w.heap.size w w' := by
 have h3 := H.h3
 have h4 := H.h4
 have HEM := hemL H
 obtain ⟨hia, hib, hic⟩ := hi
 obtain ⟨W0, hW0⟩ := exE (w.alloc (.cells #[.int .i64 12, .int .i64 ia, .int .i64 ib, .int .i64 ic] 180))
 have hb0 := blA hW0
 replace hV := hV.below hb0
 have HB0 := hid hb0
 clear hb0
 obtain ⟨c0, c1, c2, c3, c4, c5⟩ := hV.cells
 have QP := qpL c0
 obtain ⟨br, orr, har, hrw⟩ := rowB_at hV.row H.hr
 subst har
 have r0 := hrw 0 (by omega)
 rw [Nat.add_zero] at r0
 have i0 := H.fr 0
 have l0 := llL H 0
 have l0' := llN H 0
 have r1 := hrw 1 (by omega)
 have i1 := H.fr 1
 have l1 := llL H 1
 have l1' := llN H 1
 clear hrw
 have HE : Hid (tvC p r 2 ⟨12, ia, ib, ic⟩ = 0) := rfl
 obtain ⟨R, hR⟩ := exE (tvC p r 2 ⟨12, ia, ib, ic⟩)
 rw [<- hR] at HE ⊢
 clear hR
 clear i0 i1
 clear HEM H hV
 generalize zat r 0 = x0 at *
 generalize zat r 1 = x1 at *
 generalize r.length = lr at *
 generalize L.length = nL at *
 subst hW0
 go_enter Tryz.func141, Tryz.ntmps141
 go_wp2_with fail
 go_ret
 exact ⟨by have h := HE.out; subst h; rfl, HB0.out⟩
theorem wcell2_13 (p V : Nat) (L : List InsZ) (size out : Int) (r n : List Int) (aL : Option Addr) (cL : Nat) (ar : Option Addr) (cr : Nat) (an : Option Addr) (cn : Nat) (w : World) (H : VF p L size out r n) (hV : WW p V L size out r n aL cL ar cr an cn w) (ia ib ic : Int) (hi : I64 ia /\ I64 ib /\ I64 ic) :
  Calls Tryz.prog 141 #[.pointer (some ⟨V, 0, none⟩), .agg #[.int .i64 13, .int .i64 ia, .int .i64 ib, .int .i64 ic], .int .i64 2] w fun e w' => e = .returned (.int .i64 (tvC p r 2 ⟨13, ia, ib, ic⟩)) /\ Below w.heap.size w w' := by
 have h3 := H.h3
 have h4 := H.h4
 have HEM := hemL H
 obtain ⟨hia, hib, hic⟩ := hi
 obtain ⟨W0, hW0⟩ := exE (w.alloc (.cells #[.int .i64 13, .int .i64 ia, .int .i64 ib, .int .i64 ic] 180))
 have hb0 := blA hW0
 replace hV := hV.below hb0
 have HB0 := hid hb0
 clear hb0
 obtain ⟨c0, c1, c2, c3, c4, c5⟩ := hV.cells
 have QP := qpL c0
 obtain ⟨br, orr, har, hrw⟩ := rowB_at hV.row H.hr
 subst har
 have r0 := hrw 0 (by omega)
 rw [Nat.add_zero] at r0
 have i0 := H.fr 0
 have l0 := llL H 0
 have l0' := llN H 0
 have r1 := hrw 1 (by omega)
 have i1 := H.fr 1
 have l1 := llL H 1
 have l1' := llN H 1
 clear hrw
 have HE : Hid (tvC p r 2 ⟨13, ia, ib, ic⟩ = 0) := rfl
 obtain ⟨R, hR⟩ := exE (tvC p r 2 ⟨13, ia, ib, ic⟩)
 rw [<- hR] at HE ⊢
 clear hR
 clear i0 i1
 clear HEM H hV
 generalize zat r 0 = x0 at *
 generalize zat r 1 = x1 at *
 generalize r.length = lr at *
 generalize L.length = nL at *
 subst hW0
 go_enter Tryz.func141, Tryz.ntmps141
 go_wp2_with fail
 go_ret
 exact ⟨by have h := HE.out; subst h; rfl, HB0.out⟩
theorem wcell2_x (p V : Nat) (L : List InsZ) (size out : Int) (r n : List Int) (aL : Option Addr) (cL : Nat) (ar : Option Addr) (cr : Nat) (an : Option Addr) (cn : Nat) (w : World) (H : VF p L size out r n) (hV : WW p V L size out r n aL cL ar cr an cn w) (ia ib ic : Int) (hi : I64 ia /\ I64 ib /\ I64 ic) (op : Int) (hno : op ≠ 0 /\ op ≠ 1 /\ op ≠ 2 /\ op ≠ 3 /\ op ≠ 4 /\ op ≠ 5 /\ op ≠ 6 /\ op ≠ 7 /\ op ≠ 9 /\ op ≠ 10 /\ op ≠ 11 /\ op ≠ 12 /\ op ≠ 13) :
  Calls Tryz.prog 141 #[.pointer (some ⟨V, 0, none⟩), .agg #[.int .i64 op, .int .i64 ia, .int .i64 ib, .int .i64 ic], .int .i64 2] w fun e w' => e = .returned (.int .i64 (tvC p r 2 ⟨op, ia, ib, ic⟩)) /\ Below w.heap.size w w' := by
 have h3 := H.h3
 have h4 := H.h4
 have HEM := hemL H
 obtain ⟨hia, hib, hic⟩ := hi
 obtain ⟨W0, hW0⟩ := exE (w.alloc (.cells #[.int .i64 op, .int .i64 ia, .int .i64 ib, .int .i64 ic] 180))
 have hb0 := blA hW0
 replace hV := hV.below hb0
 have HB0 := hid hb0
 clear hb0
 obtain ⟨c0, c1, c2, c3, c4, c5⟩ := hV.cells
 have QP := qpL c0
 obtain ⟨br, orr, har, hrw⟩ := rowB_at hV.row H.hr
 subst har
 have r0 := hrw 0 (by omega)
 rw [Nat.add_zero] at r0
 have i0 := H.fr 0
 have l0 := llL H 0
 have l0' := llN H 0
 have r1 := hrw 1 (by omega)
 have i1 := H.fr 1
 have l1 := llL H 1
 have l1' := llN H 1
 clear hrw
 have q0 : (op == 0) = false := by rw [beq_eq_false_iff_ne]; omega
 have q1 : (op == 1) = false := by rw [beq_eq_false_iff_ne]; omega
 have q2 : (op == 2) = false := by rw [beq_eq_false_iff_ne]; omega
 have q3 : (op == 3) = false := by rw [beq_eq_false_iff_ne]; omega
 have q4 : (op == 4) = false := by rw [beq_eq_false_iff_ne]; omega
 have q5 : (op == 5) = false := by rw [beq_eq_false_iff_ne]; omega
 have q6 : (op == 6) = false := by rw [beq_eq_false_iff_ne]; omega
 have q7 : (op == 7) = false := by rw [beq_eq_false_iff_ne]; omega
 have q9 : (op == 9) = false := by rw [beq_eq_false_iff_ne]; omega
 have q10 : (op == 10) = false := by rw [beq_eq_false_iff_ne]; omega
 have q11 : (op == 11) = false := by rw [beq_eq_false_iff_ne]; omega
 have q12 : (op == 12) = false := by rw [beq_eq_false_iff_ne]; omega
 have q13 : (op == 13) = false := by rw [beq_eq_false_iff_ne]; omega
 have HE : Hid (tvC p r 2 ⟨op, ia, ib, ic⟩ = 0) := by unfold Hid; simp [tvC, cel3, hno]
 obtain ⟨R, hR⟩ := exE (tvC p r 2 ⟨op, ia, ib, ic⟩)
 rw [<- hR] at HE ⊢
 clear hR
 clear i0 i1
 clear HEM H hV
 generalize zat r 0 = x0 at *
 generalize zat r 1 = x1 at *
 generalize r.length = lr at *
 generalize L.length = nL at *
 subst hW0
 go_enter Tryz.func141, Tryz.ntmps141
 go_wp2_with fail
 go_ret
 exact ⟨by have h := HE.out; subst h; rfl, HB0.out⟩
end Go.Proofs.YtjlngcmkgkiplaaGreatDoor
