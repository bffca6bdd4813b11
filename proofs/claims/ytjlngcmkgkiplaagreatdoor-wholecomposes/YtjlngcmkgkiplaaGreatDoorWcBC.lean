
import Derived.Test.YtjlngcmkgkiplaaGreatDoorWcBA
set_option maxRecDepth 1000000
set_option maxHeartbeats 8000000
namespace Go.Proofs.YtjlngcmkgkiplaaGreatDoor
open Go.RowKit Go.Maps
theorem wdoes_1 (p V : Nat) (L : List InsZ) (size out : Int) (r n : List Int) (aL : Option Addr) (cL : Nat) (ar : Option Addr) (cr : Nat) (an : Option Addr) (cn : Nat) (w : World) (H : VF p L size out r n) (hV : WW p V L size out r n aL cL ar cr an cn w) (ia ib ic : Int) (hi : I64 ia /\ I64 ib /\ I64 ic) :
  Calls Tryz.prog 142 #[.pointer (some ⟨V, 0, none⟩), .agg #[.int .i64 1, .int .i64 ia, .int .i64 ib, .int .i64 ic]] w fun e w' => e = .returned (.int .i64 (tvW p r ⟨1, ia, ib, ic⟩)) /\ Below w.heap.size w w' := by
 have h3 := H.h3
 have h4 := H.h4
 have HEM := hemL H
 obtain ⟨hia, hib, hic⟩ := hi
 obtain ⟨W0, hW0⟩ := exE (w.alloc (.cells #[.int .i64 1, .int .i64 ia, .int .i64 ib, .int .i64 ic] 180))
 have hb0 := blA hW0
 replace hV := hV.below hb0
 have HB0 := hid hb0
 clear hb0
 obtain ⟨c0, c1, c2, c3, c4, c5⟩ := hV.cells
 have QP := qpL c0
 obtain ⟨br, orr, har, hrw⟩ := rowB_at hV.row H.hr
 subst har
 have r7 := hrw 7 (by omega)
 have i7 := H.fr 7
 have l7 := llL H 7
 have r8 := hrw 8 (by omega)
 have i8 := H.fr 8
 have l8 := llL H 8
 have r9 := hrw 9 (by omega)
 have i9 := H.fr 9
 have l9 := llL H 9
 have r11 := hrw 11 (by omega)
 have i11 := H.fr 11
 have l11 := llL H 11
 clear hrw
 have HE : Hid (tvW p r ⟨1, ia, ib, ic⟩ = (((((zat r 7) + (zat r 8)) % (p : Int)) - (zat r 9)) % (p : Int))) := by
  unfold Hid
  rw [show tvW p r ⟨1, ia, ib, ic⟩ = (zat r 7 + zat r 8 - zat r 9) % (p : Int) from rfl]
  simp only [em_sub1]
 obtain ⟨R, hR⟩ := exE (tvW p r ⟨1, ia, ib, ic⟩)
 rw [<- hR] at HE ⊢
 clear hR
 have HC0 := hid (fun W h => wadd_any p V (zat r 7) (zat r 8) W h3 h4 h i7 i8)
 have HC1 := hid (fun W h => wsub_any p V ((((zat r 7) + (zat r 8)) % (p : Int))) (zat r 9) W h3 h4 h (HEM.out _) i9)
 clear i7 i8 i9 i11
 clear HEM H hV
 generalize (((((zat r 7) + (zat r 8)) % (p : Int)) - (zat r 9)) % (p : Int)) = t2 at *
 generalize (((zat r 7) + (zat r 8)) % (p : Int)) = t1 at *
 generalize zat r 7 = x7 at *
 generalize zat r 8 = x8 at *
 generalize zat r 9 = x9 at *
 generalize zat r 11 = x11 at *
 generalize r.length = lr at *
 generalize L.length = nL at *
 subst hW0
 go_enter Tryz.func142, Tryz.ntmps142
 go_wp2_with fail
 refine (HC0.out _ c0).mono ?_
 rintro e w' ⟨rfl, hw'⟩
 have hw'' := hw'.symm
 subst hw''
 clear hw'
 go_wp2_with fail
 refine (HC1.out _ c0).mono ?_
 rintro e w' ⟨rfl, hw'⟩
 have hw'' := hw'.symm
 subst hw''
 clear hw'
 go_wp2_with fail
 go_ret
 exact ⟨by have h := HE.out; subst h; rfl, HB0.out⟩
theorem wdoes_2 (p V : Nat) (L : List InsZ) (size out : Int) (r n : List Int) (aL : Option Addr) (cL : Nat) (ar : Option Addr) (cr : Nat) (an : Option Addr) (cn : Nat) (w : World) (H : VF p L size out r n) (hV : WW p V L size out r n aL cL ar cr an cn w) (ia ib ic : Int) (hi : I64 ia /\ I64 ib /\ I64 ic) :
  Calls Tryz.prog 142 #[.pointer (some ⟨V, 0, none⟩), .agg #[.int .i64 2, .int .i64 ia, .int .i64 ib, .int .i64 ic]] w fun e w' => e = .returned (.int .i64 (tvW p r ⟨2, ia, ib, ic⟩)) /\ Below w.heap.size w w' := by
 have h3 := H.h3
 have h4 := H.h4
 have HEM := hemL H
 obtain ⟨hia, hib, hic⟩ := hi
 obtain ⟨W0, hW0⟩ := exE (w.alloc (.cells #[.int .i64 2, .int .i64 ia, .int .i64 ib, .int .i64 ic] 180))
 have hb0 := blA hW0
 replace hV := hV.below hb0
 have HB0 := hid hb0
 clear hb0
 obtain ⟨c0, c1, c2, c3, c4, c5⟩ := hV.cells
 have QP := qpL c0
 obtain ⟨br, orr, har, hrw⟩ := rowB_at hV.row H.hr
 subst har
 have r7 := hrw 7 (by omega)
 have i7 := H.fr 7
 have l7 := llL H 7
 have r8 := hrw 8 (by omega)
 have i8 := H.fr 8
 have l8 := llL H 8
 have r9 := hrw 9 (by omega)
 have i9 := H.fr 9
 have l9 := llL H 9
 have r11 := hrw 11 (by omega)
 have i11 := H.fr 11
 have l11 := llL H 11
 clear hrw
 have HE : Hid (tvW p r ⟨2, ia, ib, ic⟩ = (((((zat r 7) - (zat r 8)) % (p : Int)) - (zat r 9)) % (p : Int))) := by
  unfold Hid
  rw [show tvW p r ⟨2, ia, ib, ic⟩ = (zat r 7 - zat r 8 - zat r 9) % (p : Int) from rfl]
  simp only [em_sub1]
 obtain ⟨R, hR⟩ := exE (tvW p r ⟨2, ia, ib, ic⟩)
 rw [<- hR] at HE ⊢
 clear hR
 have HC0 := hid (fun W h => wsub_any p V (zat r 7) (zat r 8) W h3 h4 h i7 i8)
 have HC1 := hid (fun W h => wsub_any p V ((((zat r 7) - (zat r 8)) % (p : Int))) (zat r 9) W h3 h4 h (HEM.out _) i9)
 clear i7 i8 i9 i11
 clear HEM H hV
 generalize (((((zat r 7) - (zat r 8)) % (p : Int)) - (zat r 9)) % (p : Int)) = t2 at *
 generalize (((zat r 7) - (zat r 8)) % (p : Int)) = t1 at *
 generalize zat r 7 = x7 at *
 generalize zat r 8 = x8 at *
 generalize zat r 9 = x9 at *
 generalize zat r 11 = x11 at *
 generalize r.length = lr at *
 generalize L.length = nL at *
 subst hW0
 go_enter Tryz.func142, Tryz.ntmps142
 go_wp2_with fail
 refine (HC0.out _ c0).mono ?_
 rintro e w' ⟨rfl, hw'⟩
 have hw'' := hw'.symm
 subst hw''
 clear hw'
 go_wp2_with fail
 refine (HC1.out _ c0).mono ?_
 rintro e w' ⟨rfl, hw'⟩
 have hw'' := hw'.symm
 subst hw''
 clear hw'
 go_wp2_with fail
 go_ret
 exact ⟨by have h := HE.out; subst h; rfl, HB0.out⟩
theorem wdoes_3 (p V : Nat) (L : List InsZ) (size out : Int) (r n : List Int) (aL : Option Addr) (cL : Nat) (ar : Option Addr) (cr : Nat) (an : Option Addr) (cn : Nat) (w : World) (H : VF p L size out r n) (hV : WW p V L size out r n aL cL ar cr an cn w) (ia ib ic : Int) (hi : I64 ia /\ I64 ib /\ I64 ic) :
  Calls Tryz.prog 142 #[.pointer (some ⟨V, 0, none⟩), .agg #[.int .i64 3, .int .i64 ia, .int .i64 ib, .int .i64 ic]] w fun e w' => e = .returned (.int .i64 (tvW p r ⟨3, ia, ib, ic⟩)) /\ Below w.heap.size w w' := by
 have h3 := H.h3
 have h4 := H.h4
 have HEM := hemL H
 obtain ⟨hia, hib, hic⟩ := hi
 obtain ⟨W0, hW0⟩ := exE (w.alloc (.cells #[.int .i64 3, .int .i64 ia, .int .i64 ib, .int .i64 ic] 180))
 have hb0 := blA hW0
 replace hV := hV.below hb0
 have HB0 := hid hb0
 clear hb0
 obtain ⟨c0, c1, c2, c3, c4, c5⟩ := hV.cells
 have QP := qpL c0
 obtain ⟨br, orr, har, hrw⟩ := rowB_at hV.row H.hr
 subst har
 have r7 := hrw 7 (by omega)
 have i7 := H.fr 7
 have l7 := llL H 7
 have r8 := hrw 8 (by omega)
 have i8 := H.fr 8
 have l8 := llL H 8
 have r9 := hrw 9 (by omega)
 have i9 := H.fr 9
 have l9 := llL H 9
 have r11 := hrw 11 (by omega)
 have i11 := H.fr 11
 have l11 := llL H 11
 clear hrw
 have HE : Hid (tvW p r ⟨3, ia, ib, ic⟩ = (((((zat r 7) * (zat r 8)) % (p : Int)) - (zat r 9)) % (p : Int))) := by
  unfold Hid
  rw [show tvW p r ⟨3, ia, ib, ic⟩ = (zat r 7 * zat r 8 - zat r 9) % (p : Int) from rfl]
  simp only [em_sub1]
 obtain ⟨R, hR⟩ := exE (tvW p r ⟨3, ia, ib, ic⟩)
 rw [<- hR] at HE ⊢
 clear hR
 have HC0 := hid (fun W h => wmul_any p V (zat r 7) (zat r 8) W h3 h4 h i7 i8)
 have HC1 := hid (fun W h => wsub_any p V ((((zat r 7) * (zat r 8)) % (p : Int))) (zat r 9) W h3 h4 h (HEM.out _) i9)
 clear i7 i8 i9 i11
 clear HEM H hV
 generalize (((((zat r 7) * (zat r 8)) % (p : Int)) - (zat r 9)) % (p : Int)) = t2 at *
 generalize (((zat r 7) * (zat r 8)) % (p : Int)) = t1 at *
 generalize zat r 7 = x7 at *
 generalize zat r 8 = x8 at *
 generalize zat r 9 = x9 at *
 generalize zat r 11 = x11 at *
 generalize r.length = lr at *
 generalize L.length = nL at *
 subst hW0
 go_enter Tryz.func142, Tryz.ntmps142
 go_wp2_with fail
 refine (HC0.out _ c0).mono ?_
 rintro e w' ⟨rfl, hw'⟩
 have hw'' := hw'.symm
 subst hw''
 clear hw'
 go_wp2_with fail
 refine (HC1.out _ c0).mono ?_
 rintro e w' ⟨rfl, hw'⟩
 have hw'' := hw'.symm
 subst hw''
 clear hw'
 go_wp2_with fail
 go_ret
 exact ⟨by have h := HE.out; subst h; rfl, HB0.out⟩
theorem wdoes_4 (p V : Nat) (L : List InsZ) (size out : Int) (r n : List Int) (aL : Option Addr) (cL : Nat) (ar : Option Addr) (cr : Nat) (an : Option Addr) (cn : Nat) (w : World) (H : VF p L size out r n) (hV : WW p V L size out r n aL cL ar cr an cn w) (ia ib ic : Int) (hi : I64 ia /\ I64 ib /\ I64 ic) :
  Calls Tryz.prog 142 #[.pointer (some ⟨V, 0, none⟩), .agg #[.int .i64 4, .int .i64 ia, .int .i64 ib, .int .i64 ic]] w fun e w' => e = .returned (.int .i64 (tvW p r ⟨4, ia, ib, ic⟩)) /\ Below w.heap.size w w' := by
 have h3 := H.h3
 have h4 := H.h4
 have HEM := hemL H
 obtain ⟨hia, hib, hic⟩ := hi
 obtain ⟨W0, hW0⟩ := exE (w.alloc (.cells #[.int .i64 4, .int .i64 ia, .int .i64 ib, .int .i64 ic] 180))
 have hb0 := blA hW0
 replace hV := hV.below hb0
 have HB0 := hid hb0
 clear hb0
 obtain ⟨c0, c1, c2, c3, c4, c5⟩ := hV.cells
 have QP := qpL c0
 obtain ⟨br, orr, har, hrw⟩ := rowB_at hV.row H.hr
 subst har
 have r7 := hrw 7 (by omega)
 have i7 := H.fr 7
 have l7 := llL H 7
 have r8 := hrw 8 (by omega)
 have i8 := H.fr 8
 have l8 := llL H 8
 have r9 := hrw 9 (by omega)
 have i9 := H.fr 9
 have l9 := llL H 9
 have r11 := hrw 11 (by omega)
 have i11 := H.fr 11
 have l11 := llL H 11
 clear hrw
 have HE : Hid (tvW p r ⟨4, ia, ib, ic⟩ = (((((zat r 9) * (zat r 8)) % (p : Int)) - (zat r 7)) % (p : Int))) := by
  unfold Hid
  rw [show tvW p r ⟨4, ia, ib, ic⟩ = (zat r 9 * zat r 8 - zat r 7) % (p : Int) from rfl]
  simp only [em_sub1]
 obtain ⟨R, hR⟩ := exE (tvW p r ⟨4, ia, ib, ic⟩)
 rw [<- hR] at HE ⊢
 clear hR
 have HC0 := hid (fun W h => wmul_any p V (zat r 9) (zat r 8) W h3 h4 h i9 i8)
 have HC1 := hid (fun W h => wsub_any p V ((((zat r 9) * (zat r 8)) % (p : Int))) (zat r 7) W h3 h4 h (HEM.out _) i7)
 clear i7 i8 i9 i11
 clear HEM H hV
 generalize (((((zat r 9) * (zat r 8)) % (p : Int)) - (zat r 7)) % (p : Int)) = t2 at *
 generalize (((zat r 9) * (zat r 8)) % (p : Int)) = t1 at *
 generalize zat r 7 = x7 at *
 generalize zat r 8 = x8 at *
 generalize zat r 9 = x9 at *
 generalize zat r 11 = x11 at *
 generalize r.length = lr at *
 generalize L.length = nL at *
 subst hW0
 go_enter Tryz.func142, Tryz.ntmps142
 go_wp2_with fail
 refine (HC0.out _ c0).mono ?_
 rintro e w' ⟨rfl, hw'⟩
 have hw'' := hw'.symm
 subst hw''
 clear hw'
 go_wp2_with fail
 refine (HC1.out _ c0).mono ?_
 rintro e w' ⟨rfl, hw'⟩
 have hw'' := hw'.symm
 subst hw''
 clear hw'
 go_wp2_with fail
 go_ret
 exact ⟨by have h := HE.out; subst h; rfl, HB0.out⟩
theorem wdoes_5 (p V : Nat) (L : List InsZ) (size out : Int) (r n : List Int) (aL : Option Addr) (cL : Nat) (ar : Option Addr) (cr : Nat) (an : Option Addr) (cn : Nat) (w : World) (H : VF p L size out r n) (hV : WW p V L size out r n aL cL ar cr an cn w) (ia ib ic : Int) (hi : I64 ia /\ I64 ib /\ I64 ic) :
  Calls Tryz.prog 142 #[.pointer (some ⟨V, 0, none⟩), .agg #[.int .i64 5, .int .i64 ia, .int .i64 ib, .int .i64 ic]] w fun e w' => e = .returned (.int .i64 (tvW p r ⟨5, ia, ib, ic⟩)) /\ Below w.heap.size w w' := by
 have h3 := H.h3
 have h4 := H.h4
 have HEM := hemL H
 obtain ⟨hia, hib, hic⟩ := hi
 obtain ⟨W0, hW0⟩ := exE (w.alloc (.cells #[.int .i64 5, .int .i64 ia, .int .i64 ib, .int .i64 ic] 180))
 have hb0 := blA hW0
 replace hV := hV.below hb0
 have HB0 := hid hb0
 clear hb0
 obtain ⟨c0, c1, c2, c3, c4, c5⟩ := hV.cells
 have QP := qpL c0
 obtain ⟨br, orr, har, hrw⟩ := rowB_at hV.row H.hr
 subst har
 have r7 := hrw 7 (by omega)
 have i7 := H.fr 7
 have l7 := llL H 7
 have r8 := hrw 8 (by omega)
 have i8 := H.fr 8
 have l8 := llL H 8
 have r9 := hrw 9 (by omega)
 have i9 := H.fr 9
 have l9 := llL H 9
 have r11 := hrw 11 (by omega)
 have i11 := H.fr 11
 have l11 := llL H 11
 clear hrw
 have HE : Hid (tvW p r ⟨5, ia, ib, ic⟩ = (((zat r 7) - ib) % (p : Int))) := by
  unfold Hid
  rw [show tvW p r ⟨5, ia, ib, ic⟩ = (zat r 7 - ib) % (p : Int) from rfl]
 obtain ⟨R, hR⟩ := exE (tvW p r ⟨5, ia, ib, ic⟩)
 rw [<- hR] at HE ⊢
 clear hR
 have HC0 := hid (fun W h => wsub_any p V (zat r 7) ib W h3 h4 h i7 hib)
 clear i7 i8 i9 i11
 clear HEM H hV
 generalize (((zat r 7) - ib) % (p : Int)) = t1 at *
 generalize zat r 7 = x7 at *
 generalize zat r 8 = x8 at *
 generalize zat r 9 = x9 at *
 generalize zat r 11 = x11 at *
 generalize r.length = lr at *
 generalize L.length = nL at *
 subst hW0
 go_enter Tryz.func142, Tryz.ntmps142
 go_wp2_with fail
 refine (HC0.out _ c0).mono ?_
 rintro e w' ⟨rfl, hw'⟩
 have hw'' := hw'.symm
 subst hw''
 clear hw'
 go_wp2_with fail
 go_ret
 exact ⟨by have h := HE.out; subst h; rfl, HB0.out⟩
theorem wdoes_6 (p V : Nat) (L : List InsZ) (size out : Int) (r n : List Int) (aL : Option Addr) (cL : Nat) (ar : Option Addr) (cr : Nat) (an : Option Addr) (cn : Nat) (w : World) (H : VF p L size out r n) (hV : WW p V L size out r n aL cL ar cr an cn w) (ia ib ic : Int) (hi : I64 ia /\ I64 ib /\ I64 ic) :
  Calls Tryz.prog 142 #[.pointer (some ⟨V, 0, none⟩), .agg #[.int .i64 6, .int .i64 ia, .int .i64 ib, .int .i64 ic]] w fun e w' => e = .returned (.int .i64 (tvW p r ⟨6, ia, ib, ic⟩)) /\ Below w.heap.size w w' := by
 have h3 := H.h3
 have h4 := H.h4
 have HEM := hemL H
 obtain ⟨hia, hib, hic⟩ := hi
 obtain ⟨W0, hW0⟩ := exE (w.alloc (.cells #[.int .i64 6, .int .i64 ia, .int .i64 ib, .int .i64 ic] 180))
 have hb0 := blA hW0
 replace hV := hV.below hb0
 have HB0 := hid hb0
 clear hb0
 obtain ⟨c0, c1, c2, c3, c4, c5⟩ := hV.cells
 have QP := qpL c0
 obtain ⟨br, orr, har, hrw⟩ := rowB_at hV.row H.hr
 subst har
 have r7 := hrw 7 (by omega)
 have i7 := H.fr 7
 have l7 := llL H 7
 have r8 := hrw 8 (by omega)
 have i8 := H.fr 8
 have l8 := llL H 8
 have r9 := hrw 9 (by omega)
 have i9 := H.fr 9
 have l9 := llL H 9
 have r11 := hrw 11 (by omega)
 have i11 := H.fr 11
 have l11 := llL H 11
 clear hrw
 have HE : Hid (tvW p r ⟨6, ia, ib, ic⟩ = (((((((zat r 7) - (zat r 8)) % (p : Int)) * (zat r 11)) % (p : Int)) - (((1 : Int) - (zat r 9)) % (p : Int))) % (p : Int))) := by
  unfold Hid
  rw [show tvW p r ⟨6, ia, ib, ic⟩ = ((zat r 7 - zat r 8) * zat r 11 - (1 - zat r 9)) % (p : Int) from rfl]
  simp only [em_mul1, em_sub1, em_sub2]
 obtain ⟨R, hR⟩ := exE (tvW p r ⟨6, ia, ib, ic⟩)
 rw [<- hR] at HE ⊢
 clear hR
 have HC0 := hid (fun W h => wsub_any p V (zat r 7) (zat r 8) W h3 h4 h i7 i8)
 have HC1 := hid (fun W h => wmul_any p V ((((zat r 7) - (zat r 8)) % (p : Int))) (zat r 11) W h3 h4 h (HEM.out _) i11)
 have HC2 := hid (fun W h => wsub_any p V (1 : Int) (zat r 9) W h3 h4 h (show I64 (1 : Int) by unfold I64; decide) i9)
 have HC3 := hid (fun W h => wsub_any p V ((((((zat r 7) - (zat r 8)) % (p : Int)) * (zat r 11)) % (p : Int))) ((((1 : Int) - (zat r 9)) % (p : Int))) W h3 h4 h (HEM.out _) (HEM.out _))
 clear i7 i8 i9 i11
 clear HEM H hV
 generalize (((((((zat r 7) - (zat r 8)) % (p : Int)) * (zat r 11)) % (p : Int)) - (((1 : Int) - (zat r 9)) % (p : Int))) % (p : Int)) = t4 at *
 generalize (((1 : Int) - (zat r 9)) % (p : Int)) = t3 at *
 generalize (((((zat r 7) - (zat r 8)) % (p : Int)) * (zat r 11)) % (p : Int)) = t2 at *
 generalize (((zat r 7) - (zat r 8)) % (p : Int)) = t1 at *
 generalize zat r 7 = x7 at *
 generalize zat r 8 = x8 at *
 generalize zat r 9 = x9 at *
 generalize zat r 11 = x11 at *
 generalize r.length = lr at *
 generalize L.length = nL at *
 subst hW0
 go_enter Tryz.func142, Tryz.ntmps142
 go_wp2_with fail
 refine (HC0.out _ c0).mono ?_
 rintro e w' ⟨rfl, hw'⟩
 have hw'' := hw'.symm
 subst hw''
 clear hw'
 go_wp2_with fail
 refine (HC1.out _ c0).mono ?_
 rintro e w' ⟨rfl, hw'⟩
 have hw'' := hw'.symm
 subst hw''
 clear hw'
 go_wp2_with fail
 refine (HC2.out _ c0).mono ?_
 rintro e w' ⟨rfl, hw'⟩
 have hw'' := hw'.symm
 subst hw''
 clear hw'
 go_wp2_with fail
 refine (HC3.out _ c0).mono ?_
 rintro e w' ⟨rfl, hw'⟩
 have hw'' := hw'.symm
 subst hw''
 clear hw'
 go_wp2_with fail
 go_ret
 exact ⟨by have h := HE.out; subst h; rfl, HB0.out⟩
theorem wdoes_7 (p V : Nat) (L : List InsZ) (size out : Int) (r n : List Int) (aL : Option Addr) (cL : Nat) (ar : Option Addr) (cr : Nat) (an : Option Addr) (cn : Nat) (w : World) (H : VF p L size out r n) (hV : WW p V L size out r n aL cL ar cr an cn w) (ia ib ic : Int) (hi : I64 ia /\ I64 ib /\ I64 ic) :
  Calls Tryz.prog 142 #[.pointer (some ⟨V, 0, none⟩), .agg #[.int .i64 7, .int .i64 ia, .int .i64 ib, .int .i64 ic]] w fun e w' => e = .returned (.int .i64 (tvW p r ⟨7, ia, ib, ic⟩)) /\ Below w.heap.size w w' := by
 have h3 := H.h3
 have h4 := H.h4
 have HEM := hemL H
 obtain ⟨hia, hib, hic⟩ := hi
 obtain ⟨W0, hW0⟩ := exE (w.alloc (.cells #[.int .i64 7, .int .i64 ia, .int .i64 ib, .int .i64 ic] 180))
 have hb0 := blA hW0
 replace hV := hV.below hb0
 have HB0 := hid hb0
 clear hb0
 obtain ⟨c0, c1, c2, c3, c4, c5⟩ := hV.cells
 have QP := qpL c0
 obtain ⟨br, orr, har, hrw⟩ := rowB_at hV.row H.hr
 subst har
 have r7 := hrw 7 (by omega)
 have i7 := H.fr 7
 have l7 := llL H 7
 have r8 := hrw 8 (by omega)
 have i8 := H.fr 8
 have l8 := llL H 8
 have r9 := hrw 9 (by omega)
 have i9 := H.fr 9
 have l9 := llL H 9
 have r11 := hrw 11 (by omega)
 have i11 := H.fr 11
 have l11 := llL H 11
 clear hrw
 have HE : Hid (tvW p r ⟨7, ia, ib, ic⟩ = (((zat r 7) - (zat r 8)) % (p : Int))) := by
  unfold Hid
  rw [show tvW p r ⟨7, ia, ib, ic⟩ = (zat r 7 - zat r 8) % (p : Int) from rfl]
 obtain ⟨R, hR⟩ := exE (tvW p r ⟨7, ia, ib, ic⟩)
 rw [<- hR] at HE ⊢
 clear hR
 have HC0 := hid (fun W h => wsub_any p V (zat r 7) (zat r 8) W h3 h4 h i7 i8)
 clear i7 i8 i9 i11
 clear HEM H hV
 generalize (((zat r 7) - (zat r 8)) % (p : Int)) = t1 at *
 generalize zat r 7 = x7 at *
 generalize zat r 8 = x8 at *
 generalize zat r 9 = x9 at *
 generalize zat r 11 = x11 at *
 generalize r.length = lr at *
 generalize L.length = nL at *
 subst hW0
 go_enter Tryz.func142, Tryz.ntmps142
 go_wp2_with fail
 refine (HC0.out _ c0).mono ?_
 rintro e w' ⟨rfl, hw'⟩
 have hw'' := hw'.symm
 subst hw''
 clear hw'
 go_wp2_with fail
 go_ret
 exact ⟨by have h := HE.out; subst h; rfl, HB0.out⟩
theorem wdoes_13 (p V : Nat) (L : List InsZ) (size out : Int) (r n : List Int) (aL : Option Addr) (cL : Nat) (ar : Option Addr) (cr : Nat) (an : Option Addr) (cn : Nat) (w : World) (H : VF p L size out r n) (hV : WW p V L size out r n aL cL ar cr an cn w) (ia ib ic : Int) (hi : I64 ia /\ I64 ib /\ I64 ic) :
  Calls Tryz.prog 142 #[.pointer (some ⟨V, 0, none⟩), .agg #[.int .i64 13, .int .i64 ia, .int .i64 ib, .int .i64 ic]] w fun e w' => e = .returned (.int .i64 (tvW p r ⟨13, ia, ib, ic⟩)) /\ Below w.heap.size w w' := by
 have h3 := H.h3
 have h4 := H.h4
 have HEM := hemL H
 obtain ⟨hia, hib, hic⟩ := hi
 obtain ⟨W0, hW0⟩ := exE (w.alloc (.cells #[.int .i64 13, .int .i64 ia, .int .i64 ib, .int .i64 ic] 180))
 have hb0 := blA hW0
 replace hV := hV.below hb0
 have HB0 := hid hb0
 clear hb0
 obtain ⟨c0, c1, c2, c3, c4, c5⟩ := hV.cells
 have QP := qpL c0
 obtain ⟨br, orr, har, hrw⟩ := rowB_at hV.row H.hr
 subst har
 have r7 := hrw 7 (by omega)
 have i7 := H.fr 7
 have l7 := llL H 7
 have r8 := hrw 8 (by omega)
 have i8 := H.fr 8
 have l8 := llL H 8
 have r9 := hrw 9 (by omega)
 have i9 := H.fr 9
 have l9 := llL H 9
 have r11 := hrw 11 (by omega)
 have i11 := H.fr 11
 have l11 := llL H 11
 clear hrw
 have HE : Hid (tvW p r ⟨13, ia, ib, ic⟩ = (((zat r 7) - (zat r 8)) % (p : Int))) := by
  unfold Hid
  rw [show tvW p r ⟨13, ia, ib, ic⟩ = (zat r 7 - zat r 8) % (p : Int) from rfl]
 obtain ⟨R, hR⟩ := exE (tvW p r ⟨13, ia, ib, ic⟩)
 rw [<- hR] at HE ⊢
 clear hR
 have HC0 := hid (fun W h => wsub_any p V (zat r 7) (zat r 8) W h3 h4 h i7 i8)
 clear i7 i8 i9 i11
 clear HEM H hV
 generalize (((zat r 7) - (zat r 8)) % (p : Int)) = t1 at *
 generalize zat r 7 = x7 at *
 generalize zat r 8 = x8 at *
 generalize zat r 9 = x9 at *
 generalize zat r 11 = x11 at *
 generalize r.length = lr at *
 generalize L.length = nL at *
 subst hW0
 go_enter Tryz.func142, Tryz.ntmps142
 go_wp2_with fail
 refine (HC0.out _ c0).mono ?_
 rintro e w' ⟨rfl, hw'⟩
 have hw'' := hw'.symm
 subst hw''
 clear hw'
 go_wp2_with fail
 go_ret
 exact ⟨by have h := HE.out; subst h; rfl, HB0.out⟩
theorem wdoes_9 (p V : Nat) (L : List InsZ) (size out : Int) (r n : List Int) (aL : Option Addr) (cL : Nat) (ar : Option Addr) (cr : Nat) (an : Option Addr) (cn : Nat) (w : World) (H : VF p L size out r n) (hV : WW p V L size out r n aL cL ar cr an cn w) (ia ib ic : Int) (hi : I64 ia /\ I64 ib /\ I64 ic) :
  Calls Tryz.prog 142 #[.pointer (some ⟨V, 0, none⟩), .agg #[.int .i64 9, .int .i64 ia, .int .i64 ib, .int .i64 ic]] w fun e w' => e = .returned (.int .i64 (tvW p r ⟨9, ia, ib, ic⟩)) /\ Below w.heap.size w w' := by
 have h3 := H.h3
 have h4 := H.h4
 have HEM := hemL H
 obtain ⟨hia, hib, hic⟩ := hi
 obtain ⟨W0, hW0⟩ := exE (w.alloc (.cells #[.int .i64 9, .int .i64 ia, .int .i64 ib, .int .i64 ic] 180))
 have hb0 := blA hW0
 replace hV := hV.below hb0
 have HB0 := hid hb0
 clear hb0
 obtain ⟨c0, c1, c2, c3, c4, c5⟩ := hV.cells
 have QP := qpL c0
 obtain ⟨br, orr, har, hrw⟩ := rowB_at hV.row H.hr
 subst har
 have r7 := hrw 7 (by omega)
 have i7 := H.fr 7
 have l7 := llL H 7
 have r8 := hrw 8 (by omega)
 have i8 := H.fr 8
 have l8 := llL H 8
 have r9 := hrw 9 (by omega)
 have i9 := H.fr 9
 have l9 := llL H 9
 have r11 := hrw 11 (by omega)
 have i11 := H.fr 11
 have l11 := llL H 11
 clear hrw
 have HE : Hid (tvW p r ⟨9, ia, ib, ic⟩ = (((zat r 7) * (((1 : Int) - (((zat r 11) * (zat r 7)) % (p : Int))) % (p : Int))) % (p : Int))) := by
  unfold Hid
  rw [show tvW p r ⟨9, ia, ib, ic⟩ = (zat r 7 * (1 - zat r 11 * zat r 7)) % (p : Int) from rfl]
  simp only [em_mul2, em_sub2]
 obtain ⟨R, hR⟩ := exE (tvW p r ⟨9, ia, ib, ic⟩)
 rw [<- hR] at HE ⊢
 clear hR
 have HC0 := hid (fun W h => wmul_any p V (zat r 11) (zat r 7) W h3 h4 h i11 i7)
 have HC1 := hid (fun W h => wsub_any p V (1 : Int) ((((zat r 11) * (zat r 7)) % (p : Int))) W h3 h4 h (show I64 (1 : Int) by unfold I64; decide) (HEM.out _))
 have HC2 := hid (fun W h => wmul_any p V (zat r 7) ((((1 : Int) - (((zat r 11) * (zat r 7)) % (p : Int))) % (p : Int))) W h3 h4 h i7 (HEM.out _))
 clear i7 i8 i9 i11
 clear HEM H hV
 generalize (((zat r 7) * (((1 : Int) - (((zat r 11) * (zat r 7)) % (p : Int))) % (p : Int))) % (p : Int)) = t3 at *
 generalize (((1 : Int) - (((zat r 11) * (zat r 7)) % (p : Int))) % (p : Int)) = t2 at *
 generalize (((zat r 11) * (zat r 7)) % (p : Int)) = t1 at *
 generalize zat r 7 = x7 at *
 generalize zat r 8 = x8 at *
 generalize zat r 9 = x9 at *
 generalize zat r 11 = x11 at *
 generalize r.length = lr at *
 generalize L.length = nL at *
 subst hW0
 go_enter Tryz.func142, Tryz.ntmps142
 go_wp2_with fail
 refine (HC0.out _ c0).mono ?_
 rintro e w' ⟨rfl, hw'⟩
 have hw'' := hw'.symm
 subst hw''
 clear hw'
 go_wp2_with fail
 refine (HC1.out _ c0).mono ?_
 rintro e w' ⟨rfl, hw'⟩
 have hw'' := hw'.symm
 subst hw''
 clear hw'
 go_wp2_with fail
 refine (HC2.out _ c0).mono ?_
 rintro e w' ⟨rfl, hw'⟩
 have hw'' := hw'.symm
 subst hw''
 clear hw'
 go_wp2_with fail
 go_ret
 exact ⟨by have h := HE.out; subst h; rfl, HB0.out⟩
theorem wdoes_10 (p V : Nat) (L : List InsZ) (size out : Int) (r n : List Int) (aL : Option Addr) (cL : Nat) (ar : Option Addr) (cr : Nat) (an : Option Addr) (cn : Nat) (w : World) (H : VF p L size out r n) (hV : WW p V L size out r n aL cL ar cr an cn w) (ia ib ic : Int) (hi : I64 ia /\ I64 ib /\ I64 ic) :
  Calls Tryz.prog 142 #[.pointer (some ⟨V, 0, none⟩), .agg #[.int .i64 10, .int .i64 ia, .int .i64 ib, .int .i64 ic]] w fun e w' => e = .returned (.int .i64 (tvW p r ⟨10, ia, ib, ic⟩)) /\ Below w.heap.size w w' := by
 have h3 := H.h3
 have h4 := H.h4
 have HEM := hemL H
 obtain ⟨hia, hib, hic⟩ := hi
 obtain ⟨W0, hW0⟩ := exE (w.alloc (.cells #[.int .i64 10, .int .i64 ia, .int .i64 ib, .int .i64 ic] 180))
 have hb0 := blA hW0
 replace hV := hV.below hb0
 have HB0 := hid hb0
 clear hb0
 obtain ⟨c0, c1, c2, c3, c4, c5⟩ := hV.cells
 have QP := qpL c0
 obtain ⟨br, orr, har, hrw⟩ := rowB_at hV.row H.hr
 subst har
 have r0 := hrw 0 (by omega)
 rw [Nat.add_zero] at r0
 have i0 := H.fr 0
 have l0 := llL H 0
 have l0' := llN H 0
 have r7 := hrw 7 (by omega)
 have i7 := H.fr 7
 have l7 := llL H 7
 have r8 := hrw 8 (by omega)
 have i8 := H.fr 8
 have l8 := llL H 8
 have r9 := hrw 9 (by omega)
 have i9 := H.fr 9
 have l9 := llL H 9
 have r11 := hrw 11 (by omega)
 have i11 := H.fr 11
 have l11 := llL H 11
 clear hrw
 have HE : Hid (tvW p r ⟨10, ia, ib, ic⟩ = (((zat r 7) - (zat r 0)) % (p : Int))) := by
  unfold Hid
  rw [show tvW p r ⟨10, ia, ib, ic⟩ = (zat r 7 - zat r 0) % (p : Int) from rfl]
 obtain ⟨R, hR⟩ := exE (tvW p r ⟨10, ia, ib, ic⟩)
 rw [<- hR] at HE ⊢
 clear hR
 have HC0 := hid (fun W h => wsub_any p V (zat r 7) (zat r 0) W h3 h4 h i7 i0)
 clear i0 i7 i8 i9 i11
 clear HEM H hV
 generalize (((zat r 7) - (zat r 0)) % (p : Int)) = t1 at *
 generalize zat r 0 = x0 at *
 generalize zat r 7 = x7 at *
 generalize zat r 8 = x8 at *
 generalize zat r 9 = x9 at *
 generalize zat r 11 = x11 at *
 generalize r.length = lr at *
 generalize L.length = nL at *
 subst hW0
 go_enter Tryz.func142, Tryz.ntmps142
 go_wp2_with fail
 refine (HC0.out _ c0).mono ?_
 rintro e w' ⟨rfl, hw'⟩
 have hw'' := hw'.symm
 subst hw''
 clear hw'
 go_wp2_with fail
 go_ret
 exact ⟨by have h := HE.out; subst h; rfl, HB0.out⟩
theorem wdoes_12 (p V : Nat) (L : List InsZ) (size out : Int) (r n : List Int) (aL : Option Addr) (cL : Nat) (ar : Option Addr) (cr : Nat) (an : Option Addr) (cn : Nat) (w : World) (H : VF p L size out r n) (hV : WW p V L size out r n aL cL ar cr an cn w) (ia ib ic : Int) (hi : I64 ia /\ I64 ib /\ I64 ic) :
  Calls Tryz.prog 142 #[.pointer (some ⟨V, 0, none⟩), .agg #[.int .i64 12, .int .i64 ia, .int .i64 ib, .int .i64 ic]] w fun e w' => e = .returned (.int .i64 (tvW p r ⟨12, ia, ib, ic⟩)) /\ Below w.heap.size w w' := by
 have h3 := H.h3
 have h4 := H.h4
 have HEM := hemL H
 obtain ⟨hia, hib, hic⟩ := hi
 obtain ⟨W0, hW0⟩ := exE (w.alloc (.cells #[.int .i64 12, .int .i64 ia, .int .i64 ib, .int .i64 ic] 180))
 have hb0 := blA hW0
 replace hV := hV.below hb0
 have HB0 := hid hb0
 clear hb0
 obtain ⟨c0, c1, c2, c3, c4, c5⟩ := hV.cells
 have QP := qpL c0
 obtain ⟨br, orr, har, hrw⟩ := rowB_at hV.row H.hr
 subst har
 have r2 := hrw 2 (by omega)
 have i2 := H.fr 2
 have l2 := llL H 2
 have r7 := hrw 7 (by omega)
 have i7 := H.fr 7
 have l7 := llL H 7
 have r8 := hrw 8 (by omega)
 have i8 := H.fr 8
 have l8 := llL H 8
 have r9 := hrw 9 (by omega)
 have i9 := H.fr 9
 have l9 := llL H 9
 have r11 := hrw 11 (by omega)
 have i11 := H.fr 11
 have l11 := llL H 11
 clear hrw
 have HE : Hid (tvW p r ⟨12, ia, ib, ic⟩ = (((zat r 7) - (zat r 2)) % (p : Int))) := by
  unfold Hid
  rw [show tvW p r ⟨12, ia, ib, ic⟩ = (zat r 7 - zat r 2) % (p : Int) from rfl]
 obtain ⟨R, hR⟩ := exE (tvW p r ⟨12, ia, ib, ic⟩)
 rw [<- hR] at HE ⊢
 clear hR
 have HC0 := hid (fun W h => wsub_any p V (zat r 7) (zat r 2) W h3 h4 h i7 i2)
 clear i2 i7 i8 i9 i11
 clear HEM H hV
 generalize (((zat r 7) - (zat r 2)) % (p : Int)) = t1 at *
 generalize zat r 2 = x2 at *
 generalize zat r 7 = x7 at *
 generalize zat r 8 = x8 at *
 generalize zat r 9 = x9 at *
 generalize zat r 11 = x11 at *
 generalize r.length = lr at *
 generalize L.length = nL at *
 subst hW0
 go_enter Tryz.func142, Tryz.ntmps142
 go_wp2_with fail
 refine (HC0.out _ c0).mono ?_
 rintro e w' ⟨rfl, hw'⟩
 have hw'' := hw'.symm
 subst hw''
 clear hw'
 go_wp2_with fail
 go_ret
 exact ⟨by have h := HE.out; subst h; rfl, HB0.out⟩
theorem wdoes_0 (p V : Nat) (L : List InsZ) (size out : Int) (r n : List Int) (aL : Option Addr) (cL : Nat) (ar : Option Addr) (cr : Nat) (an : Option Addr) (cn : Nat) (w : World) (H : VF p L size out r n) (hV : WW p V L size out r n aL cL ar cr an cn w) (ia ib ic : Int) (hi : I64 ia /\ I64 ib /\ I64 ic) :
  Calls Tryz.prog 142 #[.pointer (some ⟨V, 0, none⟩), .agg #[.int .i64 0, .int .i64 ia, .int .i64 ib, .int .i64 ic]] w fun e w' => e = .returned (.int .i64 (tvW p r ⟨0, ia, ib, ic⟩)) /\ Below w.heap.size w w' := by
 have h3 := H.h3
 have h4 := H.h4
 have HEM := hemL H
 obtain ⟨hia, hib, hic⟩ := hi
 obtain ⟨W0, hW0⟩ := exE (w.alloc (.cells #[.int .i64 0, .int .i64 ia, .int .i64 ib, .int .i64 ic] 180))
 have hb0 := blA hW0
 replace hV := hV.below hb0
 have HB0 := hid hb0
 clear hb0
 obtain ⟨c0, c1, c2, c3, c4, c5⟩ := hV.cells
 have QP := qpL c0
 obtain ⟨br, orr, har, hrw⟩ := rowB_at hV.row H.hr
 subst har
 have r7 := hrw 7 (by omega)
 have i7 := H.fr 7
 have l7 := llL H 7
 have r8 := hrw 8 (by omega)
 have i8 := H.fr 8
 have l8 := llL H 8
 have r9 := hrw 9 (by omega)
 have i9 := H.fr 9
 have l9 := llL H 9
 have r11 := hrw 11 (by omega)
 have i11 := H.fr 11
 have l11 := llL H 11
 clear hrw
 have HE : Hid (tvW p r ⟨0, ia, ib, ic⟩ = 0) := rfl
 obtain ⟨R, hR⟩ := exE (tvW p r ⟨0, ia, ib, ic⟩)
 rw [<- hR] at HE ⊢
 clear hR
 clear i7 i8 i9 i11
 clear HEM H hV
 generalize zat r 7 = x7 at *
 generalize zat r 8 = x8 at *
 generalize zat r 9 = x9 at *
 generalize zat r 11 = x11 at *
 generalize r.length = lr at *
 generalize L.length = nL at *
 subst hW0
 go_enter Tryz.func142, Tryz.ntmps142
 go_wp2_with fail
 go_ret
 exact ⟨by have h := HE.out; subst h; rfl, HB0.out⟩
theorem wdoes_8 (p V : Nat) (L : List InsZ) (size out : Int) (r n : List Int) (aL : Option Addr) (cL : Nat) (ar : Option Addr) (cr : Nat) (an : Option Addr) (cn : Nat) (w : World) (H : VF p L size out r n) (hV : WW p V L size out r n aL cL ar cr an cn w) (ia ib ic : Int) (hi : I64 ia /\ I64 ib /\ I64 ic) :
  Calls Tryz.prog 142 #[.pointer (some ⟨V, 0, none⟩), .agg #[.int .i64 8, .int .i64 ia, .int .i64 ib, .int .i64 ic]] w fun e w' => e = .returned (.int .i64 (tvW p r ⟨8, ia, ib, ic⟩)) /\ Below w.heap.size w w' := by
 have h3 := H.h3
 have h4 := H.h4
 have HEM := hemL H
 obtain ⟨hia, hib, hic⟩ := hi
 obtain ⟨W0, hW0⟩ := exE (w.alloc (.cells #[.int .i64 8, .int .i64 ia, .int .i64 ib, .int .i64 ic] 180))
 have hb0 := blA hW0
 replace hV := hV.below hb0
 have HB0 := hid hb0
 clear hb0
 obtain ⟨c0, c1, c2, c3, c4, c5⟩ := hV.cells
 have QP := qpL c0
 obtain ⟨br, orr, har, hrw⟩ := rowB_at hV.row H.hr
 subst har
 have r7 := hrw 7 (by omega)
 have i7 := H.fr 7
 have l7 := llL H 7
 have r8 := hrw 8 (by omega)
 have i8 := H.fr 8
 have l8 := llL H 8
 have r9 := hrw 9 (by omega)
 have i9 := H.fr 9
 have l9 := llL H 9
 have r11 := hrw 11 (by omega)
 have i11 := H.fr 11
 have l11 := llL H 11
 clear hrw
 have HE : Hid (tvW p r ⟨8, ia, ib, ic⟩ = 0) := rfl
 obtain ⟨R, hR⟩ := exE (tvW p r ⟨8, ia, ib, ic⟩)
 rw [<- hR] at HE ⊢
 clear hR
 clear i7 i8 i9 i11
 clear HEM H hV
 generalize zat r 7 = x7 at *
 generalize zat r 8 = x8 at *
 generalize zat r 9 = x9 at *
 generalize zat r 11 = x11 at *
 generalize r.length = lr at *
 generalize L.length = nL at *
 subst hW0
 go_enter Tryz.func142, Tryz.ntmps142
 go_wp2_with fail
 go_ret
 exact ⟨by have h := HE.out; subst h; rfl, HB0.out⟩
theorem wdoes_11 (p V : Nat) (L : List InsZ) (size out : Int) (r n : List Int) (aL : Option Addr) (cL : Nat) (ar : Option Addr) (cr : Nat) (an : Option Addr) (cn : Nat) (w : World) (H : VF p L size out r n) (hV : WW p V L size out r n aL cL ar cr an cn w) (ia ib ic : Int) (hi : I64 ia /\ I64 ib /\ I64 ic) :
  Calls Tryz.prog 142 #[.pointer (some ⟨V, 0, none⟩), .agg #[.int .i64 11, .int .i64 ia, .int .i64 ib, .int .i64 ic]] w fun e w' => e = .returned (.int .i64 (tvW p r ⟨11, ia, ib, ic⟩)) /\ Below w.heap.size w w' := by
 have h3 := H.h3
 have h4 := H.h4
 have HEM := hemL H
 obtain ⟨hia, hib, hic⟩ := hi
 obtain ⟨W0, hW0⟩ := exE (w.alloc (.cells #[.int .i64 11, .int .i64 ia, .int .i64 ib, .int .i64 ic] 180))
 have hb0 := blA hW0
 replace hV := hV.below hb0
 have HB0 := hid hb0
 clear hb0
 obtain ⟨c0, c1, c2, c3, c4, c5⟩ := hV.cells
 have QP := qpL c0
 obtain ⟨br, orr, har, hrw⟩ := rowB_at hV.row H.hr
 subst har
 have r7 := hrw 7 (by omega)
 have i7 := H.fr 7
 have l7 := llL H 7
 have r8 := hrw 8 (by omega)
 have i8 := H.fr 8
 have l8 := llL H 8
 have r9 := hrw 9 (by omega)
 have i9 := H.fr 9
 have l9 := llL H 9
 have r11 := hrw 11 (by omega)
 have i11 := H.fr 11
 have l11 := llL H 11
 clear hrw
 have HE : Hid (tvW p r ⟨11, ia, ib, ic⟩ = 0) := rfl
 obtain ⟨R, hR⟩ := exE (tvW p r ⟨11, ia, ib, ic⟩)
 rw [<- hR] at HE ⊢
 clear hR
 clear i7 i8 i9 i11
 clear HEM H hV
 generalize zat r 7 = x7 at *
 generalize zat r 8 = x8 at *
 generalize zat r 9 = x9 at *
 generalize zat r 11 = x11 at *
 generalize r.length = lr at *
 generalize L.length = nL at *
 subst hW0
 go_enter Tryz.func142, Tryz.ntmps142
 go_wp2_with fail
 go_ret
 exact ⟨by have h := HE.out; subst h; rfl, HB0.out⟩
theorem wdoes_x (p V : Nat) (L : List InsZ) (size out : Int) (r n : List Int) (aL : Option Addr) (cL : Nat) (ar : Option Addr) (cr : Nat) (an : Option Addr) (cn : Nat) (w : World) (H : VF p L size out r n) (hV : WW p V L size out r n aL cL ar cr an cn w) (ia ib ic : Int) (hi : I64 ia /\ I64 ib /\ I64 ic) (op : Int) (hno : op ≠ 0 /\ op ≠ 1 /\ op ≠ 2 /\ op ≠ 3 /\ op ≠ 4 /\ op ≠ 5 /\ op ≠ 6 /\ op ≠ 7 /\ op ≠ 8 /\ op ≠ 9 /\ op ≠ 10 /\ op ≠ 11 /\ op ≠ 12 /\ op ≠ 13) :
  Calls Tryz.prog 142 #[.pointer (some ⟨V, 0, none⟩), .agg #[.int .i64 op, .int .i64 ia, .int .i64 ib, .int .i64 ic]] w fun e w' => e = .returned (.int .i64 (tvW p r ⟨op, ia, ib, ic⟩)) /\ Below w.heap.size w w' := by
 have h3 := H.h3
 have h4 := H.h4
 have HEM := hemL H
 obtain ⟨hia, hib, hic⟩ := hi
 obtain ⟨W0, hW0⟩ := exE (w.alloc (.cells #[.int .i64 op, .int .i64 ia, .int .i64 ib, .int .i64 ic] 180))
 have hb0 := blA hW0
 replace hV := hV.below hb0
 have HB0 := hid hb0
 clear hb0
 obtain ⟨c0, c1, c2, c3, c4, c5⟩ := hV.cells
 have QP := qpL c0
 obtain ⟨br, orr, har, hrw⟩ := rowB_at hV.row H.hr
 subst har
 have r7 := hrw 7 (by omega)
 have i7 := H.fr 7
 have l7 := llL H 7
 have r8 := hrw 8 (by omega)
 have i8 := H.fr 8
 have l8 := llL H 8
 have r9 := hrw 9 (by omega)
 have i9 := H.fr 9
 have l9 := llL H 9
 have r11 := hrw 11 (by omega)
 have i11 := H.fr 11
 have l11 := llL H 11
 clear hrw
 have q0 : (op == 0) = false := by rw [beq_eq_false_iff_ne]; omega
 have q1 : (op == 1) = false := by rw [beq_eq_false_iff_ne]; omega
 have q2 : (op == 2) = false := by rw [beq_eq_false_iff_ne]; omega
 have q3 : (op == 3) = false := by rw [beq_eq_false_iff_ne]; omega
 have q4 : (op == 4) = false := by rw [beq_eq_false_iff_ne]; omega
 have q5 : (op == 5) = false := by rw [beq_eq_false_iff_ne]; omega
 have q6 : (op == 6) = false := by rw [beq_eq_false_iff_ne]; omega
 have q7 : (op == 7) = false := by rw [beq_eq_false_iff_ne]; omega
 have q8 : (op == 8) = false := by rw [beq_eq_false_iff_ne]; omega
 have q9 : (op == 9) = false := by rw [beq_eq_false_iff_ne]; omega
 have q10 : (op == 10) = false := by rw [beq_eq_false_iff_ne]; omega
 have q11 : (op == 11) = false := by rw [beq_eq_false_iff_ne]; omega
 have q12 : (op == 12) = false := by rw [beq_eq_false_iff_ne]; omega
 have q13 : (op == 13) = false := by rw [beq_eq_false_iff_ne]; omega
 have HE : Hid (tvW p r ⟨op, ia, ib, ic⟩ = 1) := by unfold Hid; simp [tvW, hno]
 obtain ⟨R, hR⟩ := exE (tvW p r ⟨op, ia, ib, ic⟩)
 rw [<- hR] at HE ⊢
 clear hR
 clear i7 i8 i9 i11
 clear HEM H hV
 generalize zat r 7 = x7 at *
 generalize zat r 8 = x8 at *
 generalize zat r 9 = x9 at *
 generalize zat r 11 = x11 at *
 generalize r.length = lr at *
 generalize L.length = nL at *
 subst hW0
 go_enter Tryz.func142, Tryz.ntmps142
 go_wp2_with fail
 go_ret
 exact ⟨by have h := HE.out; subst h; rfl, HB0.out⟩
theorem walso_4 (p V : Nat) (L : List InsZ) (size out : Int) (r n : List Int) (aL : Option Addr) (cL : Nat) (ar : Option Addr) (cr : Nat) (an : Option Addr) (cn : Nat) (w : World) (H : VF p L size out r n) (hV : WW p V L size out r n aL cL ar cr an cn w) (k : Nat) (ia ib ic : Int) (hk : k < L.length) (ho : insat L k = ⟨4, ia, ib, ic⟩) :
  Calls Tryz.prog 143 #[.pointer (some ⟨V, 0, none⟩), .int .i64 (k : Int)] w fun e w' => e = .returned (.int .i64 (tvM p r k ⟨4, ia, ib, ic⟩)) /\ Below w.heap.size w w' := by
 have h3 := H.h3
 have h4 := H.h4
 have HEM := hemL H
 have hbb := H.hI k hk
 rw [ho] at hbb
 obtain ⟨_, hia, hib, hic⟩ := hbb
 obtain ⟨W0, hW0⟩ := exE (w.alloc (.cells #[.int .i64 4, .int .i64 ia, .int .i64 ib, .int .i64 ic] 180))
 have hb0 := blA hW0
 obtain ⟨d0, d1, d2, d3, d4, d5⟩ := hV.cells
 obtain ⟨gi, oi, hgi, hgl, j0, j1, j2, j3⟩ := hV.ins.row k hk
 subst hgi
 rw [ho] at j0 j1 j2 j3
 have lk : (k : Int) < (L.length : Int) := by omega
 have hk1 : I64 ((k : Int) + 1) := by have := H.hl; unfold I64; omega
 have hw : IntKind.i64.wrap ((k : Int) + 1) = (k : Int) + 1 := by rw [IntKind.wrap_i64]; have := H.hl; omega
 replace hV := hV.below hb0
 have HB0 := hid hb0
 clear hb0
 obtain ⟨c0, c1, c2, c3, c4, c5⟩ := hV.cells
 have QP := qpL c0
 obtain ⟨br, orr, har, hrw⟩ := rowB_at hV.row H.hr
 subst har
 have r8 := hrw 8 (by omega)
 have i8 := H.fr 8
 have l8 := llL H 8
 have r11 := hrw 11 (by omega)
 have i11 := H.fr 11
 have l11 := llL H 11
 clear hrw
 have HE : Hid (tvM p r k ⟨4, ia, ib, ic⟩ = (((((zat r 11) * (zat r 8)) % (p : Int)) - (1 : Int)) % (p : Int))) := by
  unfold Hid
  rw [show tvM p r k ⟨4, ia, ib, ic⟩ = (zat r 11 * zat r 8 - 1) % (p : Int) from rfl]
  simp only [em_sub1]
 obtain ⟨R, hR⟩ := exE (tvM p r k ⟨4, ia, ib, ic⟩)
 rw [<- hR] at HE ⊢
 clear hR
 have HC0 := hid (fun W h => wmul_any p V (zat r 11) (zat r 8) W h3 h4 h i11 i8)
 have HC1 := hid (fun W h => wsub_any p V ((((zat r 11) * (zat r 8)) % (p : Int))) (1 : Int) W h3 h4 h (HEM.out _) (show I64 (1 : Int) by unfold I64; decide))
 clear i8 i11
 clear HEM H hV
 generalize (((((zat r 11) * (zat r 8)) % (p : Int)) - (1 : Int)) % (p : Int)) = t2 at *
 generalize (((zat r 11) * (zat r 8)) % (p : Int)) = t1 at *
 generalize zat r 8 = x8 at *
 generalize zat r 11 = x11 at *
 generalize r.length = lr at *
 generalize L.length = nL at *
 subst hW0
 go_enter Tryz.func143, Tryz.ntmps143
 go_wp2_with fail
 go_quiet (first
  | (go_at_call 98; first | with_reducible exact Calls.quiet_of_same (HC0.out _ (QP.out _))))
 go_wp2_with fail
 refine (HC1.out _ (QP.out _)).mono ?_
 rintro e w' ⟨rfl, hw'⟩
 have hw'' := hw'.symm
 subst hw''
 clear hw'
 go_wp2_with fail
 go_ret
 exact ⟨by have h := HE.out; subst h; rfl, below_drewN HB0.out _⟩
theorem walso_6 (p V : Nat) (L : List InsZ) (size out : Int) (r n : List Int) (aL : Option Addr) (cL : Nat) (ar : Option Addr) (cr : Nat) (an : Option Addr) (cn : Nat) (w : World) (H : VF p L size out r n) (hV : WW p V L size out r n aL cL ar cr an cn w) (k : Nat) (ia ib ic : Int) (hk : k < L.length) (ho : insat L k = ⟨6, ia, ib, ic⟩) :
  Calls Tryz.prog 143 #[.pointer (some ⟨V, 0, none⟩), .int .i64 (k : Int)] w fun e w' => e = .returned (.int .i64 (tvM p r k ⟨6, ia, ib, ic⟩)) /\ Below w.heap.size w w' := by
 have h3 := H.h3
 have h4 := H.h4
 have HEM := hemL H
 have hbb := H.hI k hk
 rw [ho] at hbb
 obtain ⟨_, hia, hib, hic⟩ := hbb
 obtain ⟨W0, hW0⟩ := exE (w.alloc (.cells #[.int .i64 6, .int .i64 ia, .int .i64 ib, .int .i64 ic] 180))
 have hb0 := blA hW0
 obtain ⟨d0, d1, d2, d3, d4, d5⟩ := hV.cells
 obtain ⟨gi, oi, hgi, hgl, j0, j1, j2, j3⟩ := hV.ins.row k hk
 subst hgi
 rw [ho] at j0 j1 j2 j3
 have lk : (k : Int) < (L.length : Int) := by omega
 have hk1 : I64 ((k : Int) + 1) := by have := H.hl; unfold I64; omega
 have hw : IntKind.i64.wrap ((k : Int) + 1) = (k : Int) + 1 := by rw [IntKind.wrap_i64]; have := H.hl; omega
 replace hV := hV.below hb0
 have HB0 := hid hb0
 clear hb0
 obtain ⟨c0, c1, c2, c3, c4, c5⟩ := hV.cells
 have QP := qpL c0
 obtain ⟨br, orr, har, hrw⟩ := rowB_at hV.row H.hr
 subst har
 have r7 := hrw 7 (by omega)
 have i7 := H.fr 7
 have l7 := llL H 7
 have r8 := hrw 8 (by omega)
 have i8 := H.fr 8
 have l8 := llL H 8
 have r9 := hrw 9 (by omega)
 have i9 := H.fr 9
 have l9 := llL H 9
 clear hrw
 have HE : Hid (tvM p r k ⟨6, ia, ib, ic⟩ = (((zat r 9) * (((zat r 7) - (zat r 8)) % (p : Int))) % (p : Int))) := by
  unfold Hid
  rw [show tvM p r k ⟨6, ia, ib, ic⟩ = (zat r 9 * (zat r 7 - zat r 8)) % (p : Int) from rfl]
  simp only [em_mul2]
 obtain ⟨R, hR⟩ := exE (tvM p r k ⟨6, ia, ib, ic⟩)
 rw [<- hR] at HE ⊢
 clear hR
 have HC0 := hid (fun W h => wsub_any p V (zat r 7) (zat r 8) W h3 h4 h i7 i8)
 have HC1 := hid (fun W h => wmul_any p V (zat r 9) ((((zat r 7) - (zat r 8)) % (p : Int))) W h3 h4 h i9 (HEM.out _))
 clear i7 i8 i9
 clear HEM H hV
 generalize (((zat r 9) * (((zat r 7) - (zat r 8)) % (p : Int))) % (p : Int)) = t2 at *
 generalize (((zat r 7) - (zat r 8)) % (p : Int)) = t1 at *
 generalize zat r 7 = x7 at *
 generalize zat r 8 = x8 at *
 generalize zat r 9 = x9 at *
 generalize r.length = lr at *
 generalize L.length = nL at *
 subst hW0
 go_enter Tryz.func143, Tryz.ntmps143
 go_wp2_with fail
 go_quiet (first
  | (go_at_call 99; first | with_reducible exact Calls.quiet_of_same (HC0.out _ (QP.out _))))
 go_wp2_with fail
 refine (HC1.out _ (QP.out _)).mono ?_
 rintro e w' ⟨rfl, hw'⟩
 have hw'' := hw'.symm
 subst hw''
 clear hw'
 go_wp2_with fail
 go_ret
 exact ⟨by have h := HE.out; subst h; rfl, below_drewN HB0.out _⟩
theorem walso_10 (p V : Nat) (L : List InsZ) (size out : Int) (r n : List Int) (aL : Option Addr) (cL : Nat) (ar : Option Addr) (cr : Nat) (an : Option Addr) (cn : Nat) (w : World) (H : VF p L size out r n) (hV : WW p V L size out r n aL cL ar cr an cn w) (k : Nat) (ia ib ic : Int) (hk : k < L.length) (ho : insat L k = ⟨10, ia, ib, ic⟩) :
  Calls Tryz.prog 143 #[.pointer (some ⟨V, 0, none⟩), .int .i64 (k : Int)] w fun e w' => e = .returned (.int .i64 (tvM p r k ⟨10, ia, ib, ic⟩)) /\ Below w.heap.size w w' := by
 have h3 := H.h3
 have h4 := H.h4
 have HEM := hemL H
 have hbb := H.hI k hk
 rw [ho] at hbb
 obtain ⟨_, hia, hib, hic⟩ := hbb
 obtain ⟨W0, hW0⟩ := exE (w.alloc (.cells #[.int .i64 10, .int .i64 ia, .int .i64 ib, .int .i64 ic] 180))
 have hb0 := blA hW0
 obtain ⟨d0, d1, d2, d3, d4, d5⟩ := hV.cells
 obtain ⟨gi, oi, hgi, hgl, j0, j1, j2, j3⟩ := hV.ins.row k hk
 subst hgi
 rw [ho] at j0 j1 j2 j3
 have lk : (k : Int) < (L.length : Int) := by omega
 have hk1 : I64 ((k : Int) + 1) := by have := H.hl; unfold I64; omega
 have hw : IntKind.i64.wrap ((k : Int) + 1) = (k : Int) + 1 := by rw [IntKind.wrap_i64]; have := H.hl; omega
 replace hV := hV.below hb0
 have HB0 := hid hb0
 clear hb0
 obtain ⟨c0, c1, c2, c3, c4, c5⟩ := hV.cells
 have QP := qpL c0
 obtain ⟨br, orr, har, hrw⟩ := rowB_at hV.row H.hr
 subst har
 have r8 := hrw 8 (by omega)
 have i8 := H.fr 8
 have l8 := llL H 8
 clear hrw
 have HE : Hid (tvM p r k ⟨10, ia, ib, ic⟩ = (((zat r 8) - ((k : Int) + 1)) % (p : Int))) := by
  unfold Hid
  rw [show tvM p r k ⟨10, ia, ib, ic⟩ = (zat r 8 - ((k : Int) + 1)) % (p : Int) from rfl]
 obtain ⟨R, hR⟩ := exE (tvM p r k ⟨10, ia, ib, ic⟩)
 rw [<- hR] at HE ⊢
 clear hR
 have HC0 := hid (fun W h => wsub_any p V (zat r 8) (((k : Int) + 1)) W h3 h4 h i8 hk1)
 clear i8
 clear HEM H hV
 generalize (((zat r 8) - ((k : Int) + 1)) % (p : Int)) = t1 at *
 generalize zat r 8 = x8 at *
 generalize r.length = lr at *
 generalize L.length = nL at *
 subst hW0
 go_enter Tryz.func143, Tryz.ntmps143
 go_wp2_with fail
 refine (HC0.out _ c0).mono ?_
 rintro e w' ⟨rfl, hw'⟩
 have hw'' := hw'.symm
 subst hw''
 clear hw'
 go_wp2_with fail
 go_ret
 exact ⟨by have h := HE.out; subst h; rfl, HB0.out⟩
theorem walso_x (p V : Nat) (L : List InsZ) (size out : Int) (r n : List Int) (aL : Option Addr) (cL : Nat) (ar : Option Addr) (cr : Nat) (an : Option Addr) (cn : Nat) (w : World) (H : VF p L size out r n) (hV : WW p V L size out r n aL cL ar cr an cn w) (op : Int) (k : Nat) (ia ib ic : Int) (hk : k < L.length) (ho : insat L k = ⟨op, ia, ib, ic⟩) (hno : op ≠ 4 /\ op ≠ 6 /\ op ≠ 10) :
  Calls Tryz.prog 143 #[.pointer (some ⟨V, 0, none⟩), .int .i64 (k : Int)] w fun e w' => e = .returned (.int .i64 (tvM p r k ⟨op, ia, ib, ic⟩)) /\ Below w.heap.size w w' := by
 have h3 := H.h3
 have h4 := H.h4
 have HEM := hemL H
 have hbb := H.hI k hk
 rw [ho] at hbb
 obtain ⟨_, hia, hib, hic⟩ := hbb
 obtain ⟨W0, hW0⟩ := exE (w.alloc (.cells #[.int .i64 op, .int .i64 ia, .int .i64 ib, .int .i64 ic] 180))
 have hb0 := blA hW0
 obtain ⟨d0, d1, d2, d3, d4, d5⟩ := hV.cells
 obtain ⟨gi, oi, hgi, hgl, j0, j1, j2, j3⟩ := hV.ins.row k hk
 subst hgi
 rw [ho] at j0 j1 j2 j3
 have lk : (k : Int) < (L.length : Int) := by omega
 have hk1 : I64 ((k : Int) + 1) := by have := H.hl; unfold I64; omega
 have hw : IntKind.i64.wrap ((k : Int) + 1) = (k : Int) + 1 := by rw [IntKind.wrap_i64]; have := H.hl; omega
 replace hV := hV.below hb0
 have HB0 := hid hb0
 clear hb0
 obtain ⟨c0, c1, c2, c3, c4, c5⟩ := hV.cells
 have QP := qpL c0
 have q4 : (op == 4) = false := by rw [beq_eq_false_iff_ne]; omega
 have q6 : (op == 6) = false := by rw [beq_eq_false_iff_ne]; omega
 have q10 : (op == 10) = false := by rw [beq_eq_false_iff_ne]; omega
 have HE : Hid (tvM p r k ⟨op, ia, ib, ic⟩ = 0) := by unfold Hid; simp [tvM, hno]
 obtain ⟨R, hR⟩ := exE (tvM p r k ⟨op, ia, ib, ic⟩)
 rw [<- hR] at HE ⊢
 clear hR
 clear HEM H hV
 generalize L.length = nL at *
 subst hW0
 go_enter Tryz.func143, Tryz.ntmps143
 go_wp2_with fail
 go_ret
 exact ⟨by have h := HE.out; subst h; rfl, HB0.out⟩
theorem wnext_0 (p V : Nat) (L : List InsZ) (size out : Int) (r n : List Int) (aL : Option Addr) (cL : Nat) (ar : Option Addr) (cr : Nat) (an : Option Addr) (cn : Nat) (w : World) (H : VF p L size out r n) (hV : WW p V L size out r n aL cL ar cr an cn w) (k : Nat) (ia ib ic : Int) (hk : k < L.length) (ho : insat L k = ⟨0, ia, ib, ic⟩) :
  Calls Tryz.prog 144 #[.pointer (some ⟨V, 0, none⟩), .int .i64 (k : Int)] w fun e w' => e = .returned (.int .i64 (tvN p r k ⟨0, ia, ib, ic⟩)) /\ Below w.heap.size w w' := by
 have h3 := H.h3
 have h4 := H.h4
 have HEM := hemL H
 have hbb := H.hI k hk
 rw [ho] at hbb
 obtain ⟨_, hia, hib, hic⟩ := hbb
 obtain ⟨W0, hW0⟩ := exE (w.alloc (.cells #[.int .i64 0, .int .i64 ia, .int .i64 ib, .int .i64 ic] 180))
 have hb0 := blA hW0
 obtain ⟨d0, d1, d2, d3, d4, d5⟩ := hV.cells
 obtain ⟨gi, oi, hgi, hgl, j0, j1, j2, j3⟩ := hV.ins.row k hk
 subst hgi
 rw [ho] at j0 j1 j2 j3
 have lk : (k : Int) < (L.length : Int) := by omega
 have hk1 : I64 ((k : Int) + 1) := by have := H.hl; unfold I64; omega
 have hw : IntKind.i64.wrap ((k : Int) + 1) = (k : Int) + 1 := by rw [IntKind.wrap_i64]; have := H.hl; omega
 replace hV := hV.below hb0
 have HB0 := hid hb0
 clear hb0
 obtain ⟨c0, c1, c2, c3, c4, c5⟩ := hV.cells
 have QP := qpL c0
 have HE : Hid (tvN p r k ⟨0, ia, ib, ic⟩ = (k : Int)) := rfl
 obtain ⟨R, hR⟩ := exE (tvN p r k ⟨0, ia, ib, ic⟩)
 rw [<- hR] at HE ⊢
 clear hR
 clear HEM H hV
 generalize L.length = nL at *
 subst hW0
 go_enter Tryz.func144, Tryz.ntmps144
 go_wp2_with fail
 go_ret
 exact ⟨by have h := HE.out; subst h; rfl, HB0.out⟩
theorem wnext_8 (p V : Nat) (L : List InsZ) (size out : Int) (r n : List Int) (aL : Option Addr) (cL : Nat) (ar : Option Addr) (cr : Nat) (an : Option Addr) (cn : Nat) (w : World) (H : VF p L size out r n) (hV : WW p V L size out r n aL cL ar cr an cn w) (k : Nat) (ia ib ic : Int) (hk : k < L.length) (ho : insat L k = ⟨8, ia, ib, ic⟩) :
  Calls Tryz.prog 144 #[.pointer (some ⟨V, 0, none⟩), .int .i64 (k : Int)] w fun e w' => e = .returned (.int .i64 (tvN p r k ⟨8, ia, ib, ic⟩)) /\ Below w.heap.size w w' := by
 have h3 := H.h3
 have h4 := H.h4
 have HEM := hemL H
 have hbb := H.hI k hk
 rw [ho] at hbb
 obtain ⟨_, hia, hib, hic⟩ := hbb
 obtain ⟨W0, hW0⟩ := exE (w.alloc (.cells #[.int .i64 8, .int .i64 ia, .int .i64 ib, .int .i64 ic] 180))
 have hb0 := blA hW0
 obtain ⟨d0, d1, d2, d3, d4, d5⟩ := hV.cells
 obtain ⟨gi, oi, hgi, hgl, j0, j1, j2, j3⟩ := hV.ins.row k hk
 subst hgi
 rw [ho] at j0 j1 j2 j3
 have lk : (k : Int) < (L.length : Int) := by omega
 have hk1 : I64 ((k : Int) + 1) := by have := H.hl; unfold I64; omega
 have hw : IntKind.i64.wrap ((k : Int) + 1) = (k : Int) + 1 := by rw [IntKind.wrap_i64]; have := H.hl; omega
 replace hV := hV.below hb0
 have HB0 := hid hb0
 clear hb0
 obtain ⟨c0, c1, c2, c3, c4, c5⟩ := hV.cells
 have QP := qpL c0
 have HE : Hid (tvN p r k ⟨8, ia, ib, ic⟩ = ia) := rfl
 obtain ⟨R, hR⟩ := exE (tvN p r k ⟨8, ia, ib, ic⟩)
 rw [<- hR] at HE ⊢
 clear hR
 clear HEM H hV
 generalize L.length = nL at *
 subst hW0
 go_enter Tryz.func144, Tryz.ntmps144
 go_wp2_with fail
 go_ret
 exact ⟨by have h := HE.out; subst h; rfl, HB0.out⟩
theorem wnext_10 (p V : Nat) (L : List InsZ) (size out : Int) (r n : List Int) (aL : Option Addr) (cL : Nat) (ar : Option Addr) (cr : Nat) (an : Option Addr) (cn : Nat) (w : World) (H : VF p L size out r n) (hV : WW p V L size out r n aL cL ar cr an cn w) (k : Nat) (ia ib ic : Int) (hk : k < L.length) (ho : insat L k = ⟨10, ia, ib, ic⟩) :
  Calls Tryz.prog 144 #[.pointer (some ⟨V, 0, none⟩), .int .i64 (k : Int)] w fun e w' => e = .returned (.int .i64 (tvN p r k ⟨10, ia, ib, ic⟩)) /\ Below w.heap.size w w' := by
 have h3 := H.h3
 have h4 := H.h4
 have HEM := hemL H
 have hbb := H.hI k hk
 rw [ho] at hbb
 obtain ⟨_, hia, hib, hic⟩ := hbb
 obtain ⟨W0, hW0⟩ := exE (w.alloc (.cells #[.int .i64 10, .int .i64 ia, .int .i64 ib, .int .i64 ic] 180))
 have hb0 := blA hW0
 obtain ⟨d0, d1, d2, d3, d4, d5⟩ := hV.cells
 obtain ⟨gi, oi, hgi, hgl, j0, j1, j2, j3⟩ := hV.ins.row k hk
 subst hgi
 rw [ho] at j0 j1 j2 j3
 have lk : (k : Int) < (L.length : Int) := by omega
 have hk1 : I64 ((k : Int) + 1) := by have := H.hl; unfold I64; omega
 have hw : IntKind.i64.wrap ((k : Int) + 1) = (k : Int) + 1 := by rw [IntKind.wrap_i64]; have := H.hl; omega
 replace hV := hV.below hb0
 have HB0 := hid hb0
 clear hb0
 obtain ⟨c0, c1, c2, c3, c4, c5⟩ := hV.cells
 have QP := qpL c0
 have HE : Hid (tvN p r k ⟨10, ia, ib, ic⟩ = ia) := rfl
 obtain ⟨R, hR⟩ := exE (tvN p r k ⟨10, ia, ib, ic⟩)
 rw [<- hR] at HE ⊢
 clear hR
 clear HEM H hV
 generalize L.length = nL at *
 subst hW0
 go_enter Tryz.func144, Tryz.ntmps144
 go_wp2_with fail
 go_ret
 exact ⟨by have h := HE.out; subst h; rfl, HB0.out⟩
theorem wnext_9 (p V : Nat) (L : List InsZ) (size out : Int) (r n : List Int) (aL : Option Addr) (cL : Nat) (ar : Option Addr) (cr : Nat) (an : Option Addr) (cn : Nat) (w : World) (H : VF p L size out r n) (hV : WW p V L size out r n aL cL ar cr an cn w) (k : Nat) (ia ib ic : Int) (hk : k < L.length) (ho : insat L k = ⟨9, ia, ib, ic⟩) :
  Calls Tryz.prog 144 #[.pointer (some ⟨V, 0, none⟩), .int .i64 (k : Int)] w fun e w' => e = .returned (.int .i64 (tvN p r k ⟨9, ia, ib, ic⟩)) /\ Below w.heap.size w w' := by
 have h3 := H.h3
 have h4 := H.h4
 have HEM := hemL H
 have hbb := H.hI k hk
 rw [ho] at hbb
 obtain ⟨_, hia, hib, hic⟩ := hbb
 obtain ⟨W0, hW0⟩ := exE (w.alloc (.cells #[.int .i64 9, .int .i64 ia, .int .i64 ib, .int .i64 ic] 180))
 have hb0 := blA hW0
 obtain ⟨d0, d1, d2, d3, d4, d5⟩ := hV.cells
 obtain ⟨gi, oi, hgi, hgl, j0, j1, j2, j3⟩ := hV.ins.row k hk
 subst hgi
 rw [ho] at j0 j1 j2 j3
 have lk : (k : Int) < (L.length : Int) := by omega
 have hk1 : I64 ((k : Int) + 1) := by have := H.hl; unfold I64; omega
 have hw : IntKind.i64.wrap ((k : Int) + 1) = (k : Int) + 1 := by rw [IntKind.wrap_i64]; have := H.hl; omega
 replace hV := hV.below hb0
 have HB0 := hid hb0
 clear hb0
 obtain ⟨c0, c1, c2, c3, c4, c5⟩ := hV.cells
 have QP := qpL c0
 obtain ⟨br, orr, har, hrw⟩ := rowB_at hV.row H.hr
 subst har
 have r7 := hrw 7 (by omega)
 have i7 := H.fr 7
 have l7 := llL H 7
 have r11 := hrw 11 (by omega)
 have i11 := H.fr 11
 have l11 := llL H 11
 clear hrw
 have HE : Hid (tvN p r k ⟨9, ia, ib, ic⟩ = (((((((zat r 11) * (zat r 7)) % (p : Int)) * ((k : Int) + 1)) % (p : Int)) + (((((1 : Int) - (((zat r 11) * (zat r 7)) % (p : Int))) % (p : Int)) * ib) % (p : Int))) % (p : Int))) := by
  unfold Hid
  rw [show tvN p r k ⟨9, ia, ib, ic⟩ = ((1 - zat r 11 * zat r 7) * ib + zat r 11 * zat r 7 * ((k : Int) + 1)) % (p : Int) from rfl]
  simp only [em_add1, em_add2, em_mul1, em_sub2]
  rw [Int.add_comm]
 obtain ⟨R, hR⟩ := exE (tvN p r k ⟨9, ia, ib, ic⟩)
 rw [<- hR] at HE ⊢
 clear hR
 have HC0 := hid (fun W h => wmul_any p V (zat r 11) (zat r 7) W h3 h4 h i11 i7)
 have HC1 := hid (fun W h => wsub_any p V (1 : Int) ((((zat r 11) * (zat r 7)) % (p : Int))) W h3 h4 h (show I64 (1 : Int) by unfold I64; decide) (HEM.out _))
 have HC2 := hid (fun W h => wmul_any p V ((((1 : Int) - (((zat r 11) * (zat r 7)) % (p : Int))) % (p : Int))) ib W h3 h4 h (HEM.out _) hib)
 have HC3 := hid (fun W h => wmul_any p V ((((zat r 11) * (zat r 7)) % (p : Int))) (((k : Int) + 1)) W h3 h4 h (HEM.out _) hk1)
 have HC4 := hid (fun W h => wadd_any p V ((((((zat r 11) * (zat r 7)) % (p : Int)) * ((k : Int) + 1)) % (p : Int))) ((((((1 : Int) - (((zat r 11) * (zat r 7)) % (p : Int))) % (p : Int)) * ib) % (p : Int))) W h3 h4 h (HEM.out _) (HEM.out _))
 clear i7 i11
 clear HEM H hV
 generalize (((((((zat r 11) * (zat r 7)) % (p : Int)) * ((k : Int) + 1)) % (p : Int)) + (((((1 : Int) - (((zat r 11) * (zat r 7)) % (p : Int))) % (p : Int)) * ib) % (p : Int))) % (p : Int)) = t5 at *
 generalize (((((zat r 11) * (zat r 7)) % (p : Int)) * ((k : Int) + 1)) % (p : Int)) = t4 at *
 generalize (((((1 : Int) - (((zat r 11) * (zat r 7)) % (p : Int))) % (p : Int)) * ib) % (p : Int)) = t3 at *
 generalize (((1 : Int) - (((zat r 11) * (zat r 7)) % (p : Int))) % (p : Int)) = t2 at *
 generalize (((zat r 11) * (zat r 7)) % (p : Int)) = t1 at *
 generalize zat r 7 = x7 at *
 generalize zat r 11 = x11 at *
 generalize r.length = lr at *
 generalize L.length = nL at *
 subst hW0
 go_enter Tryz.func144, Tryz.ntmps144
 go_wp2_with fail
 go_quiet (first
  | (go_at_call 98; first | with_reducible exact Calls.quiet_of_same (HC0.out _ (QP.out _))))
 go_wp2_with fail
 refine (HC1.out _ (QP.out _)).mono ?_
 rintro e w' ⟨rfl, hw'⟩
 have hw'' := hw'.symm
 subst hw''
 clear hw'
 go_wp2_with fail
 refine (HC2.out _ (QP.out _)).mono ?_
 rintro e w' ⟨rfl, hw'⟩
 have hw'' := hw'.symm
 subst hw''
 clear hw'
 go_wp2_with fail
 refine (HC3.out _ (QP.out _)).mono ?_
 rintro e w' ⟨rfl, hw'⟩
 have hw'' := hw'.symm
 subst hw''
 clear hw'
 go_wp2_with fail
 refine (HC4.out _ (QP.out _)).mono ?_
 rintro e w' ⟨rfl, hw'⟩
 have hw'' := hw'.symm
 subst hw''
 clear hw'
 go_wp2_with fail
 go_ret
 exact ⟨by have h := HE.out; subst h; rfl, below_drewN HB0.out _⟩
theorem wnext_11 (p V : Nat) (L : List InsZ) (size out : Int) (r n : List Int) (aL : Option Addr) (cL : Nat) (ar : Option Addr) (cr : Nat) (an : Option Addr) (cn : Nat) (w : World) (H : VF p L size out r n) (hV : WW p V L size out r n aL cL ar cr an cn w) (k : Nat) (ia ib ic : Int) (hk : k < L.length) (ho : insat L k = ⟨11, ia, ib, ic⟩) :
  Calls Tryz.prog 144 #[.pointer (some ⟨V, 0, none⟩), .int .i64 (k : Int)] w fun e w' => e = .returned (.int .i64 (tvN p r k ⟨11, ia, ib, ic⟩)) /\ Below w.heap.size w w' := by
 have h3 := H.h3
 have h4 := H.h4
 have HEM := hemL H
 have hbb := H.hI k hk
 rw [ho] at hbb
 obtain ⟨_, hia, hib, hic⟩ := hbb
 obtain ⟨W0, hW0⟩ := exE (w.alloc (.cells #[.int .i64 11, .int .i64 ia, .int .i64 ib, .int .i64 ic] 180))
 have hb0 := blA hW0
 obtain ⟨d0, d1, d2, d3, d4, d5⟩ := hV.cells
 obtain ⟨gi, oi, hgi, hgl, j0, j1, j2, j3⟩ := hV.ins.row k hk
 subst hgi
 rw [ho] at j0 j1 j2 j3
 have lk : (k : Int) < (L.length : Int) := by omega
 have hk1 : I64 ((k : Int) + 1) := by have := H.hl; unfold I64; omega
 have hw : IntKind.i64.wrap ((k : Int) + 1) = (k : Int) + 1 := by rw [IntKind.wrap_i64]; have := H.hl; omega
 replace hV := hV.below hb0
 have HB0 := hid hb0
 clear hb0
 obtain ⟨c0, c1, c2, c3, c4, c5⟩ := hV.cells
 have QP := qpL c0
 obtain ⟨br, orr, har, hrw⟩ := rowB_at hV.row H.hr
 subst har
 have r8 := hrw 8 (by omega)
 have i8 := H.fr 8
 have l8 := llL H 8
 clear hrw
 have HE : Hid (tvN p r k ⟨11, ia, ib, ic⟩ = (zat r 8)) := rfl
 obtain ⟨R, hR⟩ := exE (tvN p r k ⟨11, ia, ib, ic⟩)
 rw [<- hR] at HE ⊢
 clear hR
 clear i8
 clear HEM H hV
 generalize zat r 8 = x8 at *
 generalize r.length = lr at *
 generalize L.length = nL at *
 subst hW0
 go_enter Tryz.func144, Tryz.ntmps144
 go_wp2_with fail
 go_ret
 exact ⟨by have h := HE.out; subst h; rfl, HB0.out⟩
theorem wnext_x (p V : Nat) (L : List InsZ) (size out : Int) (r n : List Int) (aL : Option Addr) (cL : Nat) (ar : Option Addr) (cr : Nat) (an : Option Addr) (cn : Nat) (w : World) (H : VF p L size out r n) (hV : WW p V L size out r n aL cL ar cr an cn w) (op : Int) (k : Nat) (ia ib ic : Int) (hk : k < L.length) (ho : insat L k = ⟨op, ia, ib, ic⟩) (hno : op ≠ 0 /\ op ≠ 8 /\ op ≠ 9 /\ op ≠ 10 /\ op ≠ 11) :
  Calls Tryz.prog 144 #[.pointer (some ⟨V, 0, none⟩), .int .i64 (k : Int)] w fun e w' => e = .returned (.int .i64 (tvN p r k ⟨op, ia, ib, ic⟩)) /\ Below w.heap.size w w' := by
 have h3 := H.h3
 have h4 := H.h4
 have HEM := hemL H
 have hbb := H.hI k hk
 rw [ho] at hbb
 obtain ⟨_, hia, hib, hic⟩ := hbb
 obtain ⟨W0, hW0⟩ := exE (w.alloc (.cells #[.int .i64 op, .int .i64 ia, .int .i64 ib, .int .i64 ic] 180))
 have hb0 := blA hW0
 obtain ⟨d0, d1, d2, d3, d4, d5⟩ := hV.cells
 obtain ⟨gi, oi, hgi, hgl, j0, j1, j2, j3⟩ := hV.ins.row k hk
 subst hgi
 rw [ho] at j0 j1 j2 j3
 have lk : (k : Int) < (L.length : Int) := by omega
 have hk1 : I64 ((k : Int) + 1) := by have := H.hl; unfold I64; omega
 have hw : IntKind.i64.wrap ((k : Int) + 1) = (k : Int) + 1 := by rw [IntKind.wrap_i64]; have := H.hl; omega
 replace hV := hV.below hb0
 have HB0 := hid hb0
 clear hb0
 obtain ⟨c0, c1, c2, c3, c4, c5⟩ := hV.cells
 have QP := qpL c0
 have q0 : (op == 0) = false := by rw [beq_eq_false_iff_ne]; omega
 have q8 : (op == 8) = false := by rw [beq_eq_false_iff_ne]; omega
 have q9 : (op == 9) = false := by rw [beq_eq_false_iff_ne]; omega
 have q10 : (op == 10) = false := by rw [beq_eq_false_iff_ne]; omega
 have q11 : (op == 11) = false := by rw [beq_eq_false_iff_ne]; omega
 have HE : Hid (tvN p r k ⟨op, ia, ib, ic⟩ = ((k : Int) + 1)) := by unfold Hid; simp [tvN, hno]
 obtain ⟨R, hR⟩ := exE (tvN p r k ⟨op, ia, ib, ic⟩)
 rw [<- hR] at HE ⊢
 clear hR
 clear HEM H hV
 generalize L.length = nL at *
 subst hW0
 go_enter Tryz.func144, Tryz.ntmps144
 go_wp2_with fail
 go_ret
 exact ⟨by have h := HE.out; subst h; rfl, HB0.out⟩
end Go.Proofs.YtjlngcmkgkiplaaGreatDoor
