
import Derived.Test.YtjlngcmkgkiplaaGreatDoorWcAR
set_option maxRecDepth 1000000
set_option maxHeartbeats 8000000
namespace Go.Proofs.YtjlngcmkgkiplaaGreatDoor
open Go.RowKit Go.Maps
theorem vmore_4 (p b V : Nat) (L : List InsZ) (size out : Int) (r n : List Int) (aL : Option Addr) (cL : Nat) (ar : Option Addr) (cr : Nat) (an : Option Addr) (cn : Nat) (w : World) (H : VF p L size out r n) (hV : VW p b V L size out r n aL cL ar cr an cn w) (k : Nat) (ia ib ic : Int) (hi : k < 281474976710656 /\ I64 ia /\ I64 ib /\ I64 ic)  :
  Calls Tryz.prog 134 #[.pointer (some ⟨V, 0, none⟩), .int .i64 (k : Int), .agg #[.int .i64 4, .int .i64 ia, .int .i64 ib, .int .i64 ic]] w fun e w' => e = .returned (.int .i64 (tvM p r k ⟨4, ia, ib, ic⟩)) /\ Below w.heap.size w w' := by
 have h3 := H.h3
 have h4 := H.h4
 obtain ⟨hk, hia, hib, hic⟩ := hi
 have HEM := hemL H
 obtain ⟨W0, hW0⟩ := exE (w.alloc (.cells #[.int .i64 4, .int .i64 ia, .int .i64 ib, .int .i64 ic] 180))
 have hb0 := blA hW0
 have hs0 := haA hW0
 have k0 := clA 0 hs0 rfl
 have k1 := clA 1 hs0 rfl
 have k2 := clA 2 hs0 rfl
 have k3 := clA 3 hs0 rfl
 replace hV := hV.below hb0
 have HB0 := hid hb0
 clear hs0 hb0
 obtain ⟨c0, c1, c2, c3, c4, c5⟩ := hV.cells
 have hpc := hV.fld
 have QP := qpL hpc
 obtain ⟨br, orr, har, hrw⟩ := hV.rowAt H.hr
 subst har
 have r8 := hrw 8 (by omega)
 have i8 := H.fr 8
 have l8 := llL H 8
 have r11 := hrw 11 (by omega)
 have i11 := H.fr 11
 have l11 := llL H 11
 clear hrw
 have HE : Hid (tvM p r k ⟨4, ia, ib, ic⟩ = (((((zat r 11) * (zat r 8)) % (p : Int)) - (1 : Int)) % (p : Int))) := by
  unfold Hid
  rw [show tvM p r k ⟨4, ia, ib, ic⟩ = (zat r 11 * zat r 8 - 1) % (p : Int) from rfl]
  simp only [em_sub1]
 obtain ⟨R, hR⟩ := exE (tvM p r k ⟨4, ia, ib, ic⟩)
 rw [<- hR] at HE ⊢
 clear hR
 have HC0 := hid (fun W h => mul_any p b (zat r 11) (zat r 8) W h3 h4 h i11.1 i11.2 i8.1 i8.2)
 have HC1 := hid (fun W h => sub_any p b ((((zat r 11) * (zat r 8)) % (p : Int))) (1 : Int) W h3 h4 h (HEM.out _).1 (HEM.out _).2 (show I64 1 by unfold I64; decide).1 (show I64 1 by unfold I64; decide).2)
 clear i8 i11
 clear HEM H hV
 generalize (((((zat r 11) * (zat r 8)) % (p : Int)) - (1 : Int)) % (p : Int)) = t2 at *
 generalize (((zat r 11) * (zat r 8)) % (p : Int)) = t1 at *
 generalize zat r 8 = x8 at *
 generalize zat r 11 = x11 at *
 generalize r.length = lr at *
 generalize L.length = nL at *
 go_enter Tryz.func134, Tryz.ntmps134
 go_wp2_with fail
 rw [<- hW0]
 clear hW0
 go_wp2_with fail
 go_quiet (first
  | (go_at_call 49; first | with_reducible exact Calls.quiet_of_same (HC0.out _ (QP.out _)))
  | (go_at_call 52; first | with_reducible exact Calls.quiet_of_same (HC1.out _ (QP.out _))))
 go_wp2_with fail
 go_ret
 exact ⟨by have h := HE.out; subst h; rfl, below_drewN HB0.out _⟩
theorem vmore_6 (p b V : Nat) (L : List InsZ) (size out : Int) (r n : List Int) (aL : Option Addr) (cL : Nat) (ar : Option Addr) (cr : Nat) (an : Option Addr) (cn : Nat) (w : World) (H : VF p L size out r n) (hV : VW p b V L size out r n aL cL ar cr an cn w) (k : Nat) (ia ib ic : Int) (hi : k < 281474976710656 /\ I64 ia /\ I64 ib /\ I64 ic)  :
  Calls Tryz.prog 134 #[.pointer (some ⟨V, 0, none⟩), .int .i64 (k : Int), .agg #[.int .i64 6, .int .i64 ia, .int .i64 ib, .int .i64 ic]] w fun e w' => e = .returned (.int .i64 (tvM p r k ⟨6, ia, ib, ic⟩)) /\ Below w.heap.size w w' := by
 have h3 := H.h3
 have h4 := H.h4
 obtain ⟨hk, hia, hib, hic⟩ := hi
 have HEM := hemL H
 obtain ⟨W0, hW0⟩ := exE (w.alloc (.cells #[.int .i64 6, .int .i64 ia, .int .i64 ib, .int .i64 ic] 180))
 have hb0 := blA hW0
 have hs0 := haA hW0
 have k0 := clA 0 hs0 rfl
 have k1 := clA 1 hs0 rfl
 have k2 := clA 2 hs0 rfl
 have k3 := clA 3 hs0 rfl
 replace hV := hV.below hb0
 have HB0 := hid hb0
 clear hs0 hb0
 obtain ⟨c0, c1, c2, c3, c4, c5⟩ := hV.cells
 have hpc := hV.fld
 have QP := qpL hpc
 obtain ⟨br, orr, har, hrw⟩ := hV.rowAt H.hr
 subst har
 have r7 := hrw 7 (by omega)
 have i7 := H.fr 7
 have l7 := llL H 7
 have r8 := hrw 8 (by omega)
 have i8 := H.fr 8
 have l8 := llL H 8
 have r9 := hrw 9 (by omega)
 have i9 := H.fr 9
 have l9 := llL H 9
 clear hrw
 have HE : Hid (tvM p r k ⟨6, ia, ib, ic⟩ = (((zat r 9) * (((zat r 7) - (zat r 8)) % (p : Int))) % (p : Int))) := by
  unfold Hid
  rw [show tvM p r k ⟨6, ia, ib, ic⟩ = (zat r 9 * (zat r 7 - zat r 8)) % (p : Int) from rfl]
  simp only [em_mul2]
 obtain ⟨R, hR⟩ := exE (tvM p r k ⟨6, ia, ib, ic⟩)
 rw [<- hR] at HE ⊢
 clear hR
 have HC0 := hid (fun W h => sub_any p b (zat r 7) (zat r 8) W h3 h4 h i7.1 i7.2 i8.1 i8.2)
 have HC1 := hid (fun W h => mul_any p b (zat r 9) ((((zat r 7) - (zat r 8)) % (p : Int))) W h3 h4 h i9.1 i9.2 (HEM.out _).1 (HEM.out _).2)
 clear i7 i8 i9
 clear HEM H hV
 generalize (((zat r 9) * (((zat r 7) - (zat r 8)) % (p : Int))) % (p : Int)) = t2 at *
 generalize (((zat r 7) - (zat r 8)) % (p : Int)) = t1 at *
 generalize zat r 7 = x7 at *
 generalize zat r 8 = x8 at *
 generalize zat r 9 = x9 at *
 generalize r.length = lr at *
 generalize L.length = nL at *
 go_enter Tryz.func134, Tryz.ntmps134
 go_wp2_with fail
 rw [<- hW0]
 clear hW0
 go_wp2_with fail
 go_quiet (first
  | (go_at_call 52; first | with_reducible exact Calls.quiet_of_same (HC0.out _ (QP.out _)))
  | (go_at_call 49; first | with_reducible exact Calls.quiet_of_same (HC1.out _ (QP.out _))))
 go_wp2_with fail
 go_ret
 exact ⟨by have h := HE.out; subst h; rfl, below_drewN HB0.out _⟩
theorem vmore_10 (p b V : Nat) (L : List InsZ) (size out : Int) (r n : List Int) (aL : Option Addr) (cL : Nat) (ar : Option Addr) (cr : Nat) (an : Option Addr) (cn : Nat) (w : World) (H : VF p L size out r n) (hV : VW p b V L size out r n aL cL ar cr an cn w) (k : Nat) (ia ib ic : Int) (hi : k < 281474976710656 /\ I64 ia /\ I64 ib /\ I64 ic)  :
  Calls Tryz.prog 134 #[.pointer (some ⟨V, 0, none⟩), .int .i64 (k : Int), .agg #[.int .i64 10, .int .i64 ia, .int .i64 ib, .int .i64 ic]] w fun e w' => e = .returned (.int .i64 (tvM p r k ⟨10, ia, ib, ic⟩)) /\ Below w.heap.size w w' := by
 have h3 := H.h3
 have h4 := H.h4
 obtain ⟨hk, hia, hib, hic⟩ := hi
 have HEM := hemL H
 obtain ⟨W0, hW0⟩ := exE (w.alloc (.cells #[.int .i64 10, .int .i64 ia, .int .i64 ib, .int .i64 ic] 180))
 have hb0 := blA hW0
 have hs0 := haA hW0
 have k0 := clA 0 hs0 rfl
 have k1 := clA 1 hs0 rfl
 have k2 := clA 2 hs0 rfl
 have k3 := clA 3 hs0 rfl
 replace hV := hV.below hb0
 have HB0 := hid hb0
 clear hs0 hb0
 obtain ⟨c0, c1, c2, c3, c4, c5⟩ := hV.cells
 have hpc := hV.fld
 have QP := qpL hpc
 obtain ⟨br, orr, har, hrw⟩ := hV.rowAt H.hr
 subst har
 have r8 := hrw 8 (by omega)
 have i8 := H.fr 8
 have l8 := llL H 8
 clear hrw
 have hk1 : I64 ((k : Int) + 1) := by unfold I64; omega
 have hw : IntKind.i64.wrap ((k : Int) + 1) = (k : Int) + 1 := by rw [IntKind.wrap_i64]; omega
 have HE : Hid (tvM p r k ⟨10, ia, ib, ic⟩ = (((zat r 8) - ((k : Int) + 1)) % (p : Int))) := by
  unfold Hid
  rw [show tvM p r k ⟨10, ia, ib, ic⟩ = (zat r 8 - ((k : Int) + 1)) % (p : Int) from rfl]
 obtain ⟨R, hR⟩ := exE (tvM p r k ⟨10, ia, ib, ic⟩)
 rw [<- hR] at HE ⊢
 clear hR
 have HC0 := hid (fun W h => sub_any p b (zat r 8) (((k : Int) + 1)) W h3 h4 h i8.1 i8.2 hk1.1 hk1.2)
 clear i8
 clear HEM H hV
 generalize (((zat r 8) - ((k : Int) + 1)) % (p : Int)) = t1 at *
 generalize zat r 8 = x8 at *
 generalize r.length = lr at *
 generalize L.length = nL at *
 go_enter Tryz.func134, Tryz.ntmps134
 go_wp2_with fail
 rw [<- hW0]
 clear hW0
 go_wp2_with fail
 go_quiet (first
  | (go_at_call 52; first | with_reducible exact Calls.quiet_of_same (HC0.out _ (QP.out _))))
 go_wp2_with fail
 go_ret
 exact ⟨by have h := HE.out; subst h; rfl, below_drewN HB0.out _⟩
theorem vmore_x (p b V : Nat) (L : List InsZ) (size out : Int) (r n : List Int) (aL : Option Addr) (cL : Nat) (ar : Option Addr) (cr : Nat) (an : Option Addr) (cn : Nat) (w : World) (H : VF p L size out r n) (hV : VW p b V L size out r n aL cL ar cr an cn w) (k : Nat) (ia ib ic : Int) (hi : k < 281474976710656 /\ I64 ia /\ I64 ib /\ I64 ic) (op : Int) (hno : op ≠ 4 /\ op ≠ 6 /\ op ≠ 10)  :
  Calls Tryz.prog 134 #[.pointer (some ⟨V, 0, none⟩), .int .i64 (k : Int), .agg #[.int .i64 op, .int .i64 ia, .int .i64 ib, .int .i64 ic]] w fun e w' => e = .returned (.int .i64 (tvM p r k ⟨op, ia, ib, ic⟩)) /\ Below w.heap.size w w' := by
 have h3 := H.h3
 have h4 := H.h4
 obtain ⟨hk, hia, hib, hic⟩ := hi
 have HEM := hemL H
 obtain ⟨W0, hW0⟩ := exE (w.alloc (.cells #[.int .i64 op, .int .i64 ia, .int .i64 ib, .int .i64 ic] 180))
 have hb0 := blA hW0
 have hs0 := haA hW0
 have k0 := clA 0 hs0 rfl
 have k1 := clA 1 hs0 rfl
 have k2 := clA 2 hs0 rfl
 have k3 := clA 3 hs0 rfl
 replace hV := hV.below hb0
 have HB0 := hid hb0
 clear hs0 hb0
 obtain ⟨c0, c1, c2, c3, c4, c5⟩ := hV.cells
 have hpc := hV.fld
 have QP := qpL hpc
 have q4 : (op == 4) = false := by rw [beq_eq_false_iff_ne]; omega
 have q6 : (op == 6) = false := by rw [beq_eq_false_iff_ne]; omega
 have q10 : (op == 10) = false := by rw [beq_eq_false_iff_ne]; omega
 have HE : Hid (tvM p r k ⟨op, ia, ib, ic⟩ = 0) := by unfold Hid; simp [tvM, hno]
 obtain ⟨R, hR⟩ := exE (tvM p r k ⟨op, ia, ib, ic⟩)
 rw [<- hR] at HE ⊢
 clear hR
 clear HEM H hV
 generalize L.length = nL at *
 subst hW0
 go_enter Tryz.func134, Tryz.ntmps134
 go_wp2_with fail
 go_ret
 exact ⟨by have h := HE.out; subst h; rfl, HB0.out⟩
theorem vwork_1 (p b V : Nat) (L : List InsZ) (size out : Int) (r n : List Int) (aL : Option Addr) (cL : Nat) (ar : Option Addr) (cr : Nat) (an : Option Addr) (cn : Nat) (w : World) (H : VF p L size out r n) (hV : VW p b V L size out r n aL cL ar cr an cn w) (k : Nat) (ia ib ic : Int) (hi : k < 281474976710656 /\ I64 ia /\ I64 ib /\ I64 ic)  :
  Calls Tryz.prog 133 #[.pointer (some ⟨V, 0, none⟩), .int .i64 (k : Int), .agg #[.int .i64 1, .int .i64 ia, .int .i64 ib, .int .i64 ic]] w fun e w' => e = .returned (.int .i64 (tvW p r ⟨1, ia, ib, ic⟩)) /\ Below w.heap.size w w' := by
 have h3 := H.h3
 have h4 := H.h4
 obtain ⟨hk, hia, hib, hic⟩ := hi
 have HEM := hemL H
 obtain ⟨W0, hW0⟩ := exE (w.alloc (.cells #[.int .i64 1, .int .i64 ia, .int .i64 ib, .int .i64 ic] 180))
 have hb0 := blA hW0
 have hs0 := haA hW0
 have k0 := clA 0 hs0 rfl
 have k1 := clA 1 hs0 rfl
 have k2 := clA 2 hs0 rfl
 have k3 := clA 3 hs0 rfl
 replace hV := hV.below hb0
 have HB0 := hid hb0
 clear hs0 hb0
 obtain ⟨c0, c1, c2, c3, c4, c5⟩ := hV.cells
 have hpc := hV.fld
 have QP := qpL hpc
 obtain ⟨br, orr, har, hrw⟩ := hV.rowAt H.hr
 subst har
 have r7 := hrw 7 (by omega)
 have i7 := H.fr 7
 have l7 := llL H 7
 have r8 := hrw 8 (by omega)
 have i8 := H.fr 8
 have l8 := llL H 8
 have r9 := hrw 9 (by omega)
 have i9 := H.fr 9
 have l9 := llL H 9
 clear hrw
 have HE : Hid (tvW p r ⟨1, ia, ib, ic⟩ = (((((zat r 7) + (zat r 8)) % (p : Int)) - (zat r 9)) % (p : Int))) := by
  unfold Hid
  rw [show tvW p r ⟨1, ia, ib, ic⟩ = (zat r 7 + zat r 8 - zat r 9) % (p : Int) from rfl]
  simp only [em_sub1]
 obtain ⟨R, hR⟩ := exE (tvW p r ⟨1, ia, ib, ic⟩)
 rw [<- hR] at HE ⊢
 clear hR
 have HC0 := hid (fun W h => add_any p b (zat r 7) (zat r 8) W h3 h4 h i7.1 i7.2 i8.1 i8.2)
 have HC1 := hid (fun W h => sub_any p b ((((zat r 7) + (zat r 8)) % (p : Int))) (zat r 9) W h3 h4 h (HEM.out _).1 (HEM.out _).2 i9.1 i9.2)
 clear i7 i8 i9
 clear HEM H hV
 generalize (((((zat r 7) + (zat r 8)) % (p : Int)) - (zat r 9)) % (p : Int)) = t2 at *
 generalize (((zat r 7) + (zat r 8)) % (p : Int)) = t1 at *
 generalize zat r 7 = x7 at *
 generalize zat r 8 = x8 at *
 generalize zat r 9 = x9 at *
 generalize r.length = lr at *
 generalize L.length = nL at *
 go_enter Tryz.func133, Tryz.ntmps133
 go_wp2_with fail
 rw [<- hW0]
 clear hW0
 go_wp2_with fail
 go_quiet (fail)
 obtain ⟨W1, hW1⟩ := exE (W0.drewN nq)
 replace hpc : W1.cell? ⟨b, 0, none⟩ = some (.int .i64 p) := by rw [hW1]; exact hpc
 replace c0 : W1.cell? ⟨V, 0, none⟩ = some (.pointer (some ⟨b, 0, none⟩)) := by rw [hW1]; exact c0
 replace c4 : W1.cell? ⟨V, 4, none⟩ = some (.slice (some ⟨br, orr, none⟩) lr cr) := by rw [hW1]; exact c4
 replace k0 : W1.cell? ⟨w.heap.size, 0, none⟩ = some (.int .i64 1) := by rw [hW1]; exact k0
 replace k1 : W1.cell? ⟨w.heap.size, 1, none⟩ = some (.int .i64 ia) := by rw [hW1]; exact k1
 replace k2 : W1.cell? ⟨w.heap.size, 2, none⟩ = some (.int .i64 ib) := by rw [hW1]; exact k2
 replace r7 : W1.cell? ⟨br, orr + 7, none⟩ = some (.int .i64 x7) := by rw [hW1]; exact r7
 replace r8 : W1.cell? ⟨br, orr + 8, none⟩ = some (.int .i64 x8) := by rw [hW1]; exact r8
 replace r9 : W1.cell? ⟨br, orr + 9, none⟩ = some (.int .i64 x9) := by rw [hW1]; exact r9
 have QP := qpL hpc
 have HB1 : Hid (Below w.heap.size w W1) := by unfold Hid; rw [hW1]; exact below_drewN HB0.out _
 rw [<- hW1]
 clear hW1
 go_wp2_with fail
 go_quiet (first
  | (go_at_call 92; first | with_reducible exact Calls.quiet_of_same (HC0.out _ (QP.out _)))
  | (go_at_call 52; first | with_reducible exact Calls.quiet_of_same (HC1.out _ (QP.out _))))
 go_wp2_with fail
 go_ret
 exact ⟨by have h := HE.out; subst h; rfl, below_drewN HB1.out _⟩
theorem vwork_2 (p b V : Nat) (L : List InsZ) (size out : Int) (r n : List Int) (aL : Option Addr) (cL : Nat) (ar : Option Addr) (cr : Nat) (an : Option Addr) (cn : Nat) (w : World) (H : VF p L size out r n) (hV : VW p b V L size out r n aL cL ar cr an cn w) (k : Nat) (ia ib ic : Int) (hi : k < 281474976710656 /\ I64 ia /\ I64 ib /\ I64 ic)  :
  Calls Tryz.prog 133 #[.pointer (some ⟨V, 0, none⟩), .int .i64 (k : Int), .agg #[.int .i64 2, .int .i64 ia, .int .i64 ib, .int .i64 ic]] w fun e w' => e = .returned (.int .i64 (tvW p r ⟨2, ia, ib, ic⟩)) /\ Below w.heap.size w w' := by
 have h3 := H.h3
 have h4 := H.h4
 obtain ⟨hk, hia, hib, hic⟩ := hi
 have HEM := hemL H
 obtain ⟨W0, hW0⟩ := exE (w.alloc (.cells #[.int .i64 2, .int .i64 ia, .int .i64 ib, .int .i64 ic] 180))
 have hb0 := blA hW0
 have hs0 := haA hW0
 have k0 := clA 0 hs0 rfl
 have k1 := clA 1 hs0 rfl
 have k2 := clA 2 hs0 rfl
 have k3 := clA 3 hs0 rfl
 replace hV := hV.below hb0
 have HB0 := hid hb0
 clear hs0 hb0
 obtain ⟨c0, c1, c2, c3, c4, c5⟩ := hV.cells
 have hpc := hV.fld
 have QP := qpL hpc
 obtain ⟨br, orr, har, hrw⟩ := hV.rowAt H.hr
 subst har
 have r7 := hrw 7 (by omega)
 have i7 := H.fr 7
 have l7 := llL H 7
 have r8 := hrw 8 (by omega)
 have i8 := H.fr 8
 have l8 := llL H 8
 have r9 := hrw 9 (by omega)
 have i9 := H.fr 9
 have l9 := llL H 9
 clear hrw
 have HE : Hid (tvW p r ⟨2, ia, ib, ic⟩ = (((((zat r 7) - (zat r 8)) % (p : Int)) - (zat r 9)) % (p : Int))) := by
  unfold Hid
  rw [show tvW p r ⟨2, ia, ib, ic⟩ = (zat r 7 - zat r 8 - zat r 9) % (p : Int) from rfl]
  simp only [em_sub1]
 obtain ⟨R, hR⟩ := exE (tvW p r ⟨2, ia, ib, ic⟩)
 rw [<- hR] at HE ⊢
 clear hR
 have HC0 := hid (fun W h => sub_any p b (zat r 7) (zat r 8) W h3 h4 h i7.1 i7.2 i8.1 i8.2)
 have HC1 := hid (fun W h => sub_any p b ((((zat r 7) - (zat r 8)) % (p : Int))) (zat r 9) W h3 h4 h (HEM.out _).1 (HEM.out _).2 i9.1 i9.2)
 clear i7 i8 i9
 clear HEM H hV
 generalize (((((zat r 7) - (zat r 8)) % (p : Int)) - (zat r 9)) % (p : Int)) = t2 at *
 generalize (((zat r 7) - (zat r 8)) % (p : Int)) = t1 at *
 generalize zat r 7 = x7 at *
 generalize zat r 8 = x8 at *
 generalize zat r 9 = x9 at *
 generalize r.length = lr at *
 generalize L.length = nL at *
 go_enter Tryz.func133, Tryz.ntmps133
 go_wp2_with fail
 rw [<- hW0]
 clear hW0
 go_wp2_with fail
 go_quiet (fail)
 obtain ⟨W1, hW1⟩ := exE (W0.drewN nq)
 replace hpc : W1.cell? ⟨b, 0, none⟩ = some (.int .i64 p) := by rw [hW1]; exact hpc
 replace c0 : W1.cell? ⟨V, 0, none⟩ = some (.pointer (some ⟨b, 0, none⟩)) := by rw [hW1]; exact c0
 replace c4 : W1.cell? ⟨V, 4, none⟩ = some (.slice (some ⟨br, orr, none⟩) lr cr) := by rw [hW1]; exact c4
 replace k0 : W1.cell? ⟨w.heap.size, 0, none⟩ = some (.int .i64 2) := by rw [hW1]; exact k0
 replace k1 : W1.cell? ⟨w.heap.size, 1, none⟩ = some (.int .i64 ia) := by rw [hW1]; exact k1
 replace k2 : W1.cell? ⟨w.heap.size, 2, none⟩ = some (.int .i64 ib) := by rw [hW1]; exact k2
 replace r7 : W1.cell? ⟨br, orr + 7, none⟩ = some (.int .i64 x7) := by rw [hW1]; exact r7
 replace r8 : W1.cell? ⟨br, orr + 8, none⟩ = some (.int .i64 x8) := by rw [hW1]; exact r8
 replace r9 : W1.cell? ⟨br, orr + 9, none⟩ = some (.int .i64 x9) := by rw [hW1]; exact r9
 have QP := qpL hpc
 have HB1 : Hid (Below w.heap.size w W1) := by unfold Hid; rw [hW1]; exact below_drewN HB0.out _
 rw [<- hW1]
 clear hW1
 go_wp2_with fail
 go_quiet (first
  | (go_at_call 52; first | with_reducible exact Calls.quiet_of_same (HC0.out _ (QP.out _)) | with_reducible exact Calls.quiet_of_same (HC1.out _ (QP.out _))))
 go_wp2_with fail
 go_ret
 exact ⟨by have h := HE.out; subst h; rfl, below_drewN HB1.out _⟩
theorem vwork_3 (p b V : Nat) (L : List InsZ) (size out : Int) (r n : List Int) (aL : Option Addr) (cL : Nat) (ar : Option Addr) (cr : Nat) (an : Option Addr) (cn : Nat) (w : World) (H : VF p L size out r n) (hV : VW p b V L size out r n aL cL ar cr an cn w) (k : Nat) (ia ib ic : Int) (hi : k < 281474976710656 /\ I64 ia /\ I64 ib /\ I64 ic)  :
  Calls Tryz.prog 133 #[.pointer (some ⟨V, 0, none⟩), .int .i64 (k : Int), .agg #[.int .i64 3, .int .i64 ia, .int .i64 ib, .int .i64 ic]] w fun e w' => e = .returned (.int .i64 (tvW p r ⟨3, ia, ib, ic⟩)) /\ Below w.heap.size w w' := by
 have h3 := H.h3
 have h4 := H.h4
 obtain ⟨hk, hia, hib, hic⟩ := hi
 have HEM := hemL H
 obtain ⟨W0, hW0⟩ := exE (w.alloc (.cells #[.int .i64 3, .int .i64 ia, .int .i64 ib, .int .i64 ic] 180))
 have hb0 := blA hW0
 have hs0 := haA hW0
 have k0 := clA 0 hs0 rfl
 have k1 := clA 1 hs0 rfl
 have k2 := clA 2 hs0 rfl
 have k3 := clA 3 hs0 rfl
 replace hV := hV.below hb0
 have HB0 := hid hb0
 clear hs0 hb0
 obtain ⟨c0, c1, c2, c3, c4, c5⟩ := hV.cells
 have hpc := hV.fld
 have QP := qpL hpc
 obtain ⟨br, orr, har, hrw⟩ := hV.rowAt H.hr
 subst har
 have r7 := hrw 7 (by omega)
 have i7 := H.fr 7
 have l7 := llL H 7
 have r8 := hrw 8 (by omega)
 have i8 := H.fr 8
 have l8 := llL H 8
 have r9 := hrw 9 (by omega)
 have i9 := H.fr 9
 have l9 := llL H 9
 clear hrw
 have HE : Hid (tvW p r ⟨3, ia, ib, ic⟩ = (((((zat r 7) * (zat r 8)) % (p : Int)) - (zat r 9)) % (p : Int))) := by
  unfold Hid
  rw [show tvW p r ⟨3, ia, ib, ic⟩ = (zat r 7 * zat r 8 - zat r 9) % (p : Int) from rfl]
  simp only [em_sub1]
 obtain ⟨R, hR⟩ := exE (tvW p r ⟨3, ia, ib, ic⟩)
 rw [<- hR] at HE ⊢
 clear hR
 have HC0 := hid (fun W h => mul_any p b (zat r 7) (zat r 8) W h3 h4 h i7.1 i7.2 i8.1 i8.2)
 have HC1 := hid (fun W h => sub_any p b ((((zat r 7) * (zat r 8)) % (p : Int))) (zat r 9) W h3 h4 h (HEM.out _).1 (HEM.out _).2 i9.1 i9.2)
 clear i7 i8 i9
 clear HEM H hV
 generalize (((((zat r 7) * (zat r 8)) % (p : Int)) - (zat r 9)) % (p : Int)) = t2 at *
 generalize (((zat r 7) * (zat r 8)) % (p : Int)) = t1 at *
 generalize zat r 7 = x7 at *
 generalize zat r 8 = x8 at *
 generalize zat r 9 = x9 at *
 generalize r.length = lr at *
 generalize L.length = nL at *
 go_enter Tryz.func133, Tryz.ntmps133
 go_wp2_with fail
 rw [<- hW0]
 clear hW0
 go_wp2_with fail
 go_quiet (fail)
 obtain ⟨W1, hW1⟩ := exE (W0.drewN nq)
 replace hpc : W1.cell? ⟨b, 0, none⟩ = some (.int .i64 p) := by rw [hW1]; exact hpc
 replace c0 : W1.cell? ⟨V, 0, none⟩ = some (.pointer (some ⟨b, 0, none⟩)) := by rw [hW1]; exact c0
 replace c4 : W1.cell? ⟨V, 4, none⟩ = some (.slice (some ⟨br, orr, none⟩) lr cr) := by rw [hW1]; exact c4
 replace k0 : W1.cell? ⟨w.heap.size, 0, none⟩ = some (.int .i64 3) := by rw [hW1]; exact k0
 replace k1 : W1.cell? ⟨w.heap.size, 1, none⟩ = some (.int .i64 ia) := by rw [hW1]; exact k1
 replace k2 : W1.cell? ⟨w.heap.size, 2, none⟩ = some (.int .i64 ib) := by rw [hW1]; exact k2
 replace r7 : W1.cell? ⟨br, orr + 7, none⟩ = some (.int .i64 x7) := by rw [hW1]; exact r7
 replace r8 : W1.cell? ⟨br, orr + 8, none⟩ = some (.int .i64 x8) := by rw [hW1]; exact r8
 replace r9 : W1.cell? ⟨br, orr + 9, none⟩ = some (.int .i64 x9) := by rw [hW1]; exact r9
 have QP := qpL hpc
 have HB1 : Hid (Below w.heap.size w W1) := by unfold Hid; rw [hW1]; exact below_drewN HB0.out _
 rw [<- hW1]
 clear hW1
 go_wp2_with fail
 go_quiet (first
  | (go_at_call 49; first | with_reducible exact Calls.quiet_of_same (HC0.out _ (QP.out _)))
  | (go_at_call 52; first | with_reducible exact Calls.quiet_of_same (HC1.out _ (QP.out _))))
 go_wp2_with fail
 go_ret
 exact ⟨by have h := HE.out; subst h; rfl, below_drewN HB1.out _⟩
theorem vwork_4 (p b V : Nat) (L : List InsZ) (size out : Int) (r n : List Int) (aL : Option Addr) (cL : Nat) (ar : Option Addr) (cr : Nat) (an : Option Addr) (cn : Nat) (w : World) (H : VF p L size out r n) (hV : VW p b V L size out r n aL cL ar cr an cn w) (k : Nat) (ia ib ic : Int) (hi : k < 281474976710656 /\ I64 ia /\ I64 ib /\ I64 ic)  :
  Calls Tryz.prog 133 #[.pointer (some ⟨V, 0, none⟩), .int .i64 (k : Int), .agg #[.int .i64 4, .int .i64 ia, .int .i64 ib, .int .i64 ic]] w fun e w' => e = .returned (.int .i64 (tvW p r ⟨4, ia, ib, ic⟩)) /\ Below w.heap.size w w' := by
 have h3 := H.h3
 have h4 := H.h4
 obtain ⟨hk, hia, hib, hic⟩ := hi
 have HEM := hemL H
 obtain ⟨W0, hW0⟩ := exE (w.alloc (.cells #[.int .i64 4, .int .i64 ia, .int .i64 ib, .int .i64 ic] 180))
 have hb0 := blA hW0
 have hs0 := haA hW0
 have k0 := clA 0 hs0 rfl
 have k1 := clA 1 hs0 rfl
 have k2 := clA 2 hs0 rfl
 have k3 := clA 3 hs0 rfl
 replace hV := hV.below hb0
 have HB0 := hid hb0
 clear hs0 hb0
 obtain ⟨c0, c1, c2, c3, c4, c5⟩ := hV.cells
 have hpc := hV.fld
 have QP := qpL hpc
 obtain ⟨br, orr, har, hrw⟩ := hV.rowAt H.hr
 subst har
 have r7 := hrw 7 (by omega)
 have i7 := H.fr 7
 have l7 := llL H 7
 have r8 := hrw 8 (by omega)
 have i8 := H.fr 8
 have l8 := llL H 8
 have r9 := hrw 9 (by omega)
 have i9 := H.fr 9
 have l9 := llL H 9
 clear hrw
 have HE : Hid (tvW p r ⟨4, ia, ib, ic⟩ = (((((zat r 9) * (zat r 8)) % (p : Int)) - (zat r 7)) % (p : Int))) := by
  unfold Hid
  rw [show tvW p r ⟨4, ia, ib, ic⟩ = (zat r 9 * zat r 8 - zat r 7) % (p : Int) from rfl]
  simp only [em_sub1]
 obtain ⟨R, hR⟩ := exE (tvW p r ⟨4, ia, ib, ic⟩)
 rw [<- hR] at HE ⊢
 clear hR
 have HC0 := hid (fun W h => mul_any p b (zat r 9) (zat r 8) W h3 h4 h i9.1 i9.2 i8.1 i8.2)
 have HC1 := hid (fun W h => sub_any p b ((((zat r 9) * (zat r 8)) % (p : Int))) (zat r 7) W h3 h4 h (HEM.out _).1 (HEM.out _).2 i7.1 i7.2)
 clear i7 i8 i9
 clear HEM H hV
 generalize (((((zat r 9) * (zat r 8)) % (p : Int)) - (zat r 7)) % (p : Int)) = t2 at *
 generalize (((zat r 9) * (zat r 8)) % (p : Int)) = t1 at *
 generalize zat r 7 = x7 at *
 generalize zat r 8 = x8 at *
 generalize zat r 9 = x9 at *
 generalize r.length = lr at *
 generalize L.length = nL at *
 go_enter Tryz.func133, Tryz.ntmps133
 go_wp2_with fail
 rw [<- hW0]
 clear hW0
 go_wp2_with fail
 go_quiet (fail)
 obtain ⟨W1, hW1⟩ := exE (W0.drewN nq)
 replace hpc : W1.cell? ⟨b, 0, none⟩ = some (.int .i64 p) := by rw [hW1]; exact hpc
 replace c0 : W1.cell? ⟨V, 0, none⟩ = some (.pointer (some ⟨b, 0, none⟩)) := by rw [hW1]; exact c0
 replace c4 : W1.cell? ⟨V, 4, none⟩ = some (.slice (some ⟨br, orr, none⟩) lr cr) := by rw [hW1]; exact c4
 replace k0 : W1.cell? ⟨w.heap.size, 0, none⟩ = some (.int .i64 4) := by rw [hW1]; exact k0
 replace k1 : W1.cell? ⟨w.heap.size, 1, none⟩ = some (.int .i64 ia) := by rw [hW1]; exact k1
 replace k2 : W1.cell? ⟨w.heap.size, 2, none⟩ = some (.int .i64 ib) := by rw [hW1]; exact k2
 replace r7 : W1.cell? ⟨br, orr + 7, none⟩ = some (.int .i64 x7) := by rw [hW1]; exact r7
 replace r8 : W1.cell? ⟨br, orr + 8, none⟩ = some (.int .i64 x8) := by rw [hW1]; exact r8
 replace r9 : W1.cell? ⟨br, orr + 9, none⟩ = some (.int .i64 x9) := by rw [hW1]; exact r9
 have QP := qpL hpc
 have HB1 : Hid (Below w.heap.size w W1) := by unfold Hid; rw [hW1]; exact below_drewN HB0.out _
 rw [<- hW1]
 clear hW1
 go_wp2_with fail
 go_quiet (first
  | (go_at_call 49; first | with_reducible exact Calls.quiet_of_same (HC0.out _ (QP.out _)))
  | (go_at_call 52; first | with_reducible exact Calls.quiet_of_same (HC1.out _ (QP.out _))))
 go_wp2_with fail
 go_ret
 exact ⟨by have h := HE.out; subst h; rfl, below_drewN HB1.out _⟩
theorem vwork_5 (p b V : Nat) (L : List InsZ) (size out : Int) (r n : List Int) (aL : Option Addr) (cL : Nat) (ar : Option Addr) (cr : Nat) (an : Option Addr) (cn : Nat) (w : World) (H : VF p L size out r n) (hV : VW p b V L size out r n aL cL ar cr an cn w) (k : Nat) (ia ib ic : Int) (hi : k < 281474976710656 /\ I64 ia /\ I64 ib /\ I64 ic)  :
  Calls Tryz.prog 133 #[.pointer (some ⟨V, 0, none⟩), .int .i64 (k : Int), .agg #[.int .i64 5, .int .i64 ia, .int .i64 ib, .int .i64 ic]] w fun e w' => e = .returned (.int .i64 (tvW p r ⟨5, ia, ib, ic⟩)) /\ Below w.heap.size w w' := by
 have h3 := H.h3
 have h4 := H.h4
 obtain ⟨hk, hia, hib, hic⟩ := hi
 have HEM := hemL H
 obtain ⟨W0, hW0⟩ := exE (w.alloc (.cells #[.int .i64 5, .int .i64 ia, .int .i64 ib, .int .i64 ic] 180))
 have hb0 := blA hW0
 have hs0 := haA hW0
 have k0 := clA 0 hs0 rfl
 have k1 := clA 1 hs0 rfl
 have k2 := clA 2 hs0 rfl
 have k3 := clA 3 hs0 rfl
 replace hV := hV.below hb0
 have HB0 := hid hb0
 clear hs0 hb0
 obtain ⟨c0, c1, c2, c3, c4, c5⟩ := hV.cells
 have hpc := hV.fld
 have QP := qpL hpc
 obtain ⟨br, orr, har, hrw⟩ := hV.rowAt H.hr
 subst har
 have r7 := hrw 7 (by omega)
 have i7 := H.fr 7
 have l7 := llL H 7
 have r8 := hrw 8 (by omega)
 have i8 := H.fr 8
 have l8 := llL H 8
 have r9 := hrw 9 (by omega)
 have i9 := H.fr 9
 have l9 := llL H 9
 clear hrw
 have HE : Hid (tvW p r ⟨5, ia, ib, ic⟩ = (((zat r 7) - ib) % (p : Int))) := by
  unfold Hid
  rw [show tvW p r ⟨5, ia, ib, ic⟩ = (zat r 7 - ib) % (p : Int) from rfl]
 obtain ⟨R, hR⟩ := exE (tvW p r ⟨5, ia, ib, ic⟩)
 rw [<- hR] at HE ⊢
 clear hR
 have HC0 := hid (fun W h => sub_any p b (zat r 7) ib W h3 h4 h i7.1 i7.2 hib.1 hib.2)
 clear i7 i8 i9
 clear HEM H hV
 generalize (((zat r 7) - ib) % (p : Int)) = t1 at *
 generalize zat r 7 = x7 at *
 generalize zat r 8 = x8 at *
 generalize zat r 9 = x9 at *
 generalize r.length = lr at *
 generalize L.length = nL at *
 go_enter Tryz.func133, Tryz.ntmps133
 go_wp2_with fail
 rw [<- hW0]
 clear hW0
 go_wp2_with fail
 go_quiet (fail)
 obtain ⟨W1, hW1⟩ := exE (W0.drewN nq)
 replace hpc : W1.cell? ⟨b, 0, none⟩ = some (.int .i64 p) := by rw [hW1]; exact hpc
 replace c0 : W1.cell? ⟨V, 0, none⟩ = some (.pointer (some ⟨b, 0, none⟩)) := by rw [hW1]; exact c0
 replace c4 : W1.cell? ⟨V, 4, none⟩ = some (.slice (some ⟨br, orr, none⟩) lr cr) := by rw [hW1]; exact c4
 replace k0 : W1.cell? ⟨w.heap.size, 0, none⟩ = some (.int .i64 5) := by rw [hW1]; exact k0
 replace k1 : W1.cell? ⟨w.heap.size, 1, none⟩ = some (.int .i64 ia) := by rw [hW1]; exact k1
 replace k2 : W1.cell? ⟨w.heap.size, 2, none⟩ = some (.int .i64 ib) := by rw [hW1]; exact k2
 replace r7 : W1.cell? ⟨br, orr + 7, none⟩ = some (.int .i64 x7) := by rw [hW1]; exact r7
 replace r8 : W1.cell? ⟨br, orr + 8, none⟩ = some (.int .i64 x8) := by rw [hW1]; exact r8
 replace r9 : W1.cell? ⟨br, orr + 9, none⟩ = some (.int .i64 x9) := by rw [hW1]; exact r9
 have QP := qpL hpc
 have HB1 : Hid (Below w.heap.size w W1) := by unfold Hid; rw [hW1]; exact below_drewN HB0.out _
 rw [<- hW1]
 clear hW1
 go_wp2_with fail
 go_quiet (first
  | (go_at_call 52; first | with_reducible exact Calls.quiet_of_same (HC0.out _ (QP.out _))))
 go_wp2_with fail
 go_ret
 exact ⟨by have h := HE.out; subst h; rfl, below_drewN HB1.out _⟩
theorem vwork_6 (p b V : Nat) (L : List InsZ) (size out : Int) (r n : List Int) (aL : Option Addr) (cL : Nat) (ar : Option Addr) (cr : Nat) (an : Option Addr) (cn : Nat) (w : World) (H : VF p L size out r n) (hV : VW p b V L size out r n aL cL ar cr an cn w) (k : Nat) (ia ib ic : Int) (hi : k < 281474976710656 /\ I64 ia /\ I64 ib /\ I64 ic)  :
  Calls Tryz.prog 133 #[.pointer (some ⟨V, 0, none⟩), .int .i64 (k : Int), .agg #[.int .i64 6, .int .i64 ia, .int .i64 ib, .int .i64 ic]] w fun e w' => e = .returned (.int .i64 (tvW p r ⟨6, ia, ib, ic⟩)) /\ Below w.heap.size w w' := by
 have h3 := H.h3
 have h4 := H.h4
 obtain ⟨hk, hia, hib, hic⟩ := hi
 have HEM := hemL H
 obtain ⟨W0, hW0⟩ := exE (w.alloc (.cells #[.int .i64 6, .int .i64 ia, .int .i64 ib, .int .i64 ic] 180))
 have hb0 := blA hW0
 have hs0 := haA hW0
 have k0 := clA 0 hs0 rfl
 have k1 := clA 1 hs0 rfl
 have k2 := clA 2 hs0 rfl
 have k3 := clA 3 hs0 rfl
 replace hV := hV.below hb0
 have HB0 := hid hb0
 clear hs0 hb0
 obtain ⟨c0, c1, c2, c3, c4, c5⟩ := hV.cells
 have hpc := hV.fld
 have QP := qpL hpc
 obtain ⟨br, orr, har, hrw⟩ := hV.rowAt H.hr
 subst har
 have r7 := hrw 7 (by omega)
 have i7 := H.fr 7
 have l7 := llL H 7
 have r8 := hrw 8 (by omega)
 have i8 := H.fr 8
 have l8 := llL H 8
 have r9 := hrw 9 (by omega)
 have i9 := H.fr 9
 have l9 := llL H 9
 have r11 := hrw 11 (by omega)
 have i11 := H.fr 11
 have l11 := llL H 11
 clear hrw
 have HE : Hid (tvW p r ⟨6, ia, ib, ic⟩ = (((((((zat r 7) - (zat r 8)) % (p : Int)) * (zat r 11)) % (p : Int)) - (((1 : Int) - (zat r 9)) % (p : Int))) % (p : Int))) := by
  unfold Hid
  rw [show tvW p r ⟨6, ia, ib, ic⟩ = ((zat r 7 - zat r 8) * zat r 11 - (1 - zat r 9)) % (p : Int) from rfl]
  simp only [em_mul1, em_sub1, em_sub2]
 obtain ⟨R, hR⟩ := exE (tvW p r ⟨6, ia, ib, ic⟩)
 rw [<- hR] at HE ⊢
 clear hR
 have HC0 := hid (fun W h => sub_any p b (zat r 7) (zat r 8) W h3 h4 h i7.1 i7.2 i8.1 i8.2)
 have HC1 := hid (fun W h => mul_any p b ((((zat r 7) - (zat r 8)) % (p : Int))) (zat r 11) W h3 h4 h (HEM.out _).1 (HEM.out _).2 i11.1 i11.2)
 have HC2 := hid (fun W h => sub_any p b (1 : Int) (zat r 9) W h3 h4 h (show I64 1 by unfold I64; decide).1 (show I64 1 by unfold I64; decide).2 i9.1 i9.2)
 have HC3 := hid (fun W h => sub_any p b ((((((zat r 7) - (zat r 8)) % (p : Int)) * (zat r 11)) % (p : Int))) ((((1 : Int) - (zat r 9)) % (p : Int))) W h3 h4 h (HEM.out _).1 (HEM.out _).2 (HEM.out _).1 (HEM.out _).2)
 clear i7 i8 i9 i11
 clear HEM H hV
 generalize (((((((zat r 7) - (zat r 8)) % (p : Int)) * (zat r 11)) % (p : Int)) - (((1 : Int) - (zat r 9)) % (p : Int))) % (p : Int)) = t4 at *
 generalize (((1 : Int) - (zat r 9)) % (p : Int)) = t3 at *
 generalize (((((zat r 7) - (zat r 8)) % (p : Int)) * (zat r 11)) % (p : Int)) = t2 at *
 generalize (((zat r 7) - (zat r 8)) % (p : Int)) = t1 at *
 generalize zat r 7 = x7 at *
 generalize zat r 8 = x8 at *
 generalize zat r 9 = x9 at *
 generalize zat r 11 = x11 at *
 generalize r.length = lr at *
 generalize L.length = nL at *
 go_enter Tryz.func133, Tryz.ntmps133
 go_wp2_with fail
 rw [<- hW0]
 clear hW0
 go_wp2_with fail
 go_quiet (fail)
 obtain ⟨W1, hW1⟩ := exE (W0.drewN nq)
 replace hpc : W1.cell? ⟨b, 0, none⟩ = some (.int .i64 p) := by rw [hW1]; exact hpc
 replace c0 : W1.cell? ⟨V, 0, none⟩ = some (.pointer (some ⟨b, 0, none⟩)) := by rw [hW1]; exact c0
 replace c4 : W1.cell? ⟨V, 4, none⟩ = some (.slice (some ⟨br, orr, none⟩) lr cr) := by rw [hW1]; exact c4
 replace k0 : W1.cell? ⟨w.heap.size, 0, none⟩ = some (.int .i64 6) := by rw [hW1]; exact k0
 replace k1 : W1.cell? ⟨w.heap.size, 1, none⟩ = some (.int .i64 ia) := by rw [hW1]; exact k1
 replace k2 : W1.cell? ⟨w.heap.size, 2, none⟩ = some (.int .i64 ib) := by rw [hW1]; exact k2
 replace r7 : W1.cell? ⟨br, orr + 7, none⟩ = some (.int .i64 x7) := by rw [hW1]; exact r7
 replace r8 : W1.cell? ⟨br, orr + 8, none⟩ = some (.int .i64 x8) := by rw [hW1]; exact r8
 replace r9 : W1.cell? ⟨br, orr + 9, none⟩ = some (.int .i64 x9) := by rw [hW1]; exact r9
 replace r11 : W1.cell? ⟨br, orr + 11, none⟩ = some (.int .i64 x11) := by rw [hW1]; exact r11
 have QP := qpL hpc
 have HB1 : Hid (Below w.heap.size w W1) := by unfold Hid; rw [hW1]; exact below_drewN HB0.out _
 rw [<- hW1]
 clear hW1
 go_wp2_with fail
 go_quiet (first
  | (go_at_call 52; first | with_reducible exact Calls.quiet_of_same (HC0.out _ (QP.out _)) | with_reducible exact Calls.quiet_of_same (HC2.out _ (QP.out _)) | with_reducible exact Calls.quiet_of_same (HC3.out _ (QP.out _)))
  | (go_at_call 49; first | with_reducible exact Calls.quiet_of_same (HC1.out _ (QP.out _))))
 go_wp2_with fail
 go_ret
 exact ⟨by have h := HE.out; subst h; rfl, below_drewN HB1.out _⟩
theorem vwork_7 (p b V : Nat) (L : List InsZ) (size out : Int) (r n : List Int) (aL : Option Addr) (cL : Nat) (ar : Option Addr) (cr : Nat) (an : Option Addr) (cn : Nat) (w : World) (H : VF p L size out r n) (hV : VW p b V L size out r n aL cL ar cr an cn w) (k : Nat) (ia ib ic : Int) (hi : k < 281474976710656 /\ I64 ia /\ I64 ib /\ I64 ic)  :
  Calls Tryz.prog 133 #[.pointer (some ⟨V, 0, none⟩), .int .i64 (k : Int), .agg #[.int .i64 7, .int .i64 ia, .int .i64 ib, .int .i64 ic]] w fun e w' => e = .returned (.int .i64 (tvW p r ⟨7, ia, ib, ic⟩)) /\ Below w.heap.size w w' := by
 have h3 := H.h3
 have h4 := H.h4
 obtain ⟨hk, hia, hib, hic⟩ := hi
 have HEM := hemL H
 obtain ⟨W0, hW0⟩ := exE (w.alloc (.cells #[.int .i64 7, .int .i64 ia, .int .i64 ib, .int .i64 ic] 180))
 have hb0 := blA hW0
 have hs0 := haA hW0
 have k0 := clA 0 hs0 rfl
 have k1 := clA 1 hs0 rfl
 have k2 := clA 2 hs0 rfl
 have k3 := clA 3 hs0 rfl
 replace hV := hV.below hb0
 have HB0 := hid hb0
 clear hs0 hb0
 obtain ⟨c0, c1, c2, c3, c4, c5⟩ := hV.cells
 have hpc := hV.fld
 have QP := qpL hpc
 obtain ⟨br, orr, har, hrw⟩ := hV.rowAt H.hr
 subst har
 have r7 := hrw 7 (by omega)
 have i7 := H.fr 7
 have l7 := llL H 7
 have r8 := hrw 8 (by omega)
 have i8 := H.fr 8
 have l8 := llL H 8
 have r9 := hrw 9 (by omega)
 have i9 := H.fr 9
 have l9 := llL H 9
 clear hrw
 have HE : Hid (tvW p r ⟨7, ia, ib, ic⟩ = (((zat r 7) - (zat r 8)) % (p : Int))) := by
  unfold Hid
  rw [show tvW p r ⟨7, ia, ib, ic⟩ = (zat r 7 - zat r 8) % (p : Int) from rfl]
 obtain ⟨R, hR⟩ := exE (tvW p r ⟨7, ia, ib, ic⟩)
 rw [<- hR] at HE ⊢
 clear hR
 have HC0 := hid (fun W h => sub_any p b (zat r 7) (zat r 8) W h3 h4 h i7.1 i7.2 i8.1 i8.2)
 clear i7 i8 i9
 clear HEM H hV
 generalize (((zat r 7) - (zat r 8)) % (p : Int)) = t1 at *
 generalize zat r 7 = x7 at *
 generalize zat r 8 = x8 at *
 generalize zat r 9 = x9 at *
 generalize r.length = lr at *
 generalize L.length = nL at *
 go_enter Tryz.func133, Tryz.ntmps133
 go_wp2_with fail
 rw [<- hW0]
 clear hW0
 go_wp2_with fail
 go_quiet (fail)
 obtain ⟨W1, hW1⟩ := exE (W0.drewN nq)
 replace hpc : W1.cell? ⟨b, 0, none⟩ = some (.int .i64 p) := by rw [hW1]; exact hpc
 replace c0 : W1.cell? ⟨V, 0, none⟩ = some (.pointer (some ⟨b, 0, none⟩)) := by rw [hW1]; exact c0
 replace c4 : W1.cell? ⟨V, 4, none⟩ = some (.slice (some ⟨br, orr, none⟩) lr cr) := by rw [hW1]; exact c4
 replace k0 : W1.cell? ⟨w.heap.size, 0, none⟩ = some (.int .i64 7) := by rw [hW1]; exact k0
 replace k1 : W1.cell? ⟨w.heap.size, 1, none⟩ = some (.int .i64 ia) := by rw [hW1]; exact k1
 replace k2 : W1.cell? ⟨w.heap.size, 2, none⟩ = some (.int .i64 ib) := by rw [hW1]; exact k2
 replace r7 : W1.cell? ⟨br, orr + 7, none⟩ = some (.int .i64 x7) := by rw [hW1]; exact r7
 replace r8 : W1.cell? ⟨br, orr + 8, none⟩ = some (.int .i64 x8) := by rw [hW1]; exact r8
 replace r9 : W1.cell? ⟨br, orr + 9, none⟩ = some (.int .i64 x9) := by rw [hW1]; exact r9
 have QP := qpL hpc
 have HB1 : Hid (Below w.heap.size w W1) := by unfold Hid; rw [hW1]; exact below_drewN HB0.out _
 rw [<- hW1]
 clear hW1
 go_wp2_with fail
 refine (HC0.out _ hpc).mono ?_
 rintro e w' ⟨rfl, rfl⟩
 go_wp2_with fail
 go_ret
 exact ⟨by have h := HE.out; subst h; rfl, HB1.out⟩
theorem vwork_13 (p b V : Nat) (L : List InsZ) (size out : Int) (r n : List Int) (aL : Option Addr) (cL : Nat) (ar : Option Addr) (cr : Nat) (an : Option Addr) (cn : Nat) (w : World) (H : VF p L size out r n) (hV : VW p b V L size out r n aL cL ar cr an cn w) (k : Nat) (ia ib ic : Int) (hi : k < 281474976710656 /\ I64 ia /\ I64 ib /\ I64 ic)  :
  Calls Tryz.prog 133 #[.pointer (some ⟨V, 0, none⟩), .int .i64 (k : Int), .agg #[.int .i64 13, .int .i64 ia, .int .i64 ib, .int .i64 ic]] w fun e w' => e = .returned (.int .i64 (tvW p r ⟨13, ia, ib, ic⟩)) /\ Below w.heap.size w w' := by
 have h3 := H.h3
 have h4 := H.h4
 obtain ⟨hk, hia, hib, hic⟩ := hi
 have HEM := hemL H
 obtain ⟨W0, hW0⟩ := exE (w.alloc (.cells #[.int .i64 13, .int .i64 ia, .int .i64 ib, .int .i64 ic] 180))
 have hb0 := blA hW0
 have hs0 := haA hW0
 have k0 := clA 0 hs0 rfl
 have k1 := clA 1 hs0 rfl
 have k2 := clA 2 hs0 rfl
 have k3 := clA 3 hs0 rfl
 replace hV := hV.below hb0
 have HB0 := hid hb0
 clear hs0 hb0
 obtain ⟨c0, c1, c2, c3, c4, c5⟩ := hV.cells
 have hpc := hV.fld
 have QP := qpL hpc
 obtain ⟨br, orr, har, hrw⟩ := hV.rowAt H.hr
 subst har
 have r7 := hrw 7 (by omega)
 have i7 := H.fr 7
 have l7 := llL H 7
 have r8 := hrw 8 (by omega)
 have i8 := H.fr 8
 have l8 := llL H 8
 have r9 := hrw 9 (by omega)
 have i9 := H.fr 9
 have l9 := llL H 9
 clear hrw
 have HE : Hid (tvW p r ⟨13, ia, ib, ic⟩ = (((zat r 7) - (zat r 8)) % (p : Int))) := by
  unfold Hid
  rw [show tvW p r ⟨13, ia, ib, ic⟩ = (zat r 7 - zat r 8) % (p : Int) from rfl]
 obtain ⟨R, hR⟩ := exE (tvW p r ⟨13, ia, ib, ic⟩)
 rw [<- hR] at HE ⊢
 clear hR
 have HC0 := hid (fun W h => sub_any p b (zat r 7) (zat r 8) W h3 h4 h i7.1 i7.2 i8.1 i8.2)
 clear i7 i8 i9
 clear HEM H hV
 generalize (((zat r 7) - (zat r 8)) % (p : Int)) = t1 at *
 generalize zat r 7 = x7 at *
 generalize zat r 8 = x8 at *
 generalize zat r 9 = x9 at *
 generalize r.length = lr at *
 generalize L.length = nL at *
 go_enter Tryz.func133, Tryz.ntmps133
 go_wp2_with fail
 rw [<- hW0]
 clear hW0
 go_wp2_with fail
 go_quiet (fail)
 obtain ⟨W1, hW1⟩ := exE (W0.drewN nq)
 replace hpc : W1.cell? ⟨b, 0, none⟩ = some (.int .i64 p) := by rw [hW1]; exact hpc
 replace c0 : W1.cell? ⟨V, 0, none⟩ = some (.pointer (some ⟨b, 0, none⟩)) := by rw [hW1]; exact c0
 replace c4 : W1.cell? ⟨V, 4, none⟩ = some (.slice (some ⟨br, orr, none⟩) lr cr) := by rw [hW1]; exact c4
 replace k0 : W1.cell? ⟨w.heap.size, 0, none⟩ = some (.int .i64 13) := by rw [hW1]; exact k0
 replace k1 : W1.cell? ⟨w.heap.size, 1, none⟩ = some (.int .i64 ia) := by rw [hW1]; exact k1
 replace k2 : W1.cell? ⟨w.heap.size, 2, none⟩ = some (.int .i64 ib) := by rw [hW1]; exact k2
 replace r7 : W1.cell? ⟨br, orr + 7, none⟩ = some (.int .i64 x7) := by rw [hW1]; exact r7
 replace r8 : W1.cell? ⟨br, orr + 8, none⟩ = some (.int .i64 x8) := by rw [hW1]; exact r8
 replace r9 : W1.cell? ⟨br, orr + 9, none⟩ = some (.int .i64 x9) := by rw [hW1]; exact r9
 have QP := qpL hpc
 have HB1 : Hid (Below w.heap.size w W1) := by unfold Hid; rw [hW1]; exact below_drewN HB0.out _
 rw [<- hW1]
 clear hW1
 go_wp2_with fail
 refine (HC0.out _ hpc).mono ?_
 rintro e w' ⟨rfl, rfl⟩
 go_wp2_with fail
 go_ret
 exact ⟨by have h := HE.out; subst h; rfl, HB1.out⟩
theorem vwork_9 (p b V : Nat) (L : List InsZ) (size out : Int) (r n : List Int) (aL : Option Addr) (cL : Nat) (ar : Option Addr) (cr : Nat) (an : Option Addr) (cn : Nat) (w : World) (H : VF p L size out r n) (hV : VW p b V L size out r n aL cL ar cr an cn w) (k : Nat) (ia ib ic : Int) (hi : k < 281474976710656 /\ I64 ia /\ I64 ib /\ I64 ic)  :
  Calls Tryz.prog 133 #[.pointer (some ⟨V, 0, none⟩), .int .i64 (k : Int), .agg #[.int .i64 9, .int .i64 ia, .int .i64 ib, .int .i64 ic]] w fun e w' => e = .returned (.int .i64 (tvW p r ⟨9, ia, ib, ic⟩)) /\ Below w.heap.size w w' := by
 have h3 := H.h3
 have h4 := H.h4
 obtain ⟨hk, hia, hib, hic⟩ := hi
 have HEM := hemL H
 obtain ⟨W0, hW0⟩ := exE (w.alloc (.cells #[.int .i64 9, .int .i64 ia, .int .i64 ib, .int .i64 ic] 180))
 have hb0 := blA hW0
 have hs0 := haA hW0
 have k0 := clA 0 hs0 rfl
 have k1 := clA 1 hs0 rfl
 have k2 := clA 2 hs0 rfl
 have k3 := clA 3 hs0 rfl
 replace hV := hV.below hb0
 have HB0 := hid hb0
 clear hs0 hb0
 obtain ⟨c0, c1, c2, c3, c4, c5⟩ := hV.cells
 have hpc := hV.fld
 have QP := qpL hpc
 obtain ⟨br, orr, har, hrw⟩ := hV.rowAt H.hr
 subst har
 have r7 := hrw 7 (by omega)
 have i7 := H.fr 7
 have l7 := llL H 7
 have r8 := hrw 8 (by omega)
 have i8 := H.fr 8
 have l8 := llL H 8
 have r9 := hrw 9 (by omega)
 have i9 := H.fr 9
 have l9 := llL H 9
 clear hrw
 have HE : Hid (tvW p r ⟨9, ia, ib, ic⟩ = (((zat r 7) * (((1 : Int) - ((zat r 11 * zat r 7) % (p : Int))) % (p : Int))) % (p : Int))) := by
  unfold Hid
  rw [show tvW p r ⟨9, ia, ib, ic⟩ = (zat r 7 * (1 - zat r 11 * zat r 7)) % (p : Int) from rfl]
  simp only [em_mul2, em_sub2]
 obtain ⟨R, hR⟩ := exE (tvW p r ⟨9, ia, ib, ic⟩)
 rw [<- hR] at HE ⊢
 clear hR
 have HC0 : Hid (∀ m, Calls Tryz.prog 147 #[.pointer (some ⟨V, 0, none⟩)] (W0.drewN m) fun e w' => e = .returned (.int .i64 ((zat r 11 * zat r 7) % (p : Int))) /\ ∃ k, w' = (W0.drewN m).drewN k) := fun m => vnotZero_any p b V L size out r n aL cL _ cr an cn _ H (hV.below (below_drewN (Below.refl _ _) m))
 have HC1 := hid (fun W h => sub_any p b (1 : Int) (((zat r 11 * zat r 7) % (p : Int))) W h3 h4 h (show I64 1 by unfold I64; decide).1 (show I64 1 by unfold I64; decide).2 (HEM.out _).1 (HEM.out _).2)
 have HC2 := hid (fun W h => mul_any p b (zat r 7) ((((1 : Int) - ((zat r 11 * zat r 7) % (p : Int))) % (p : Int))) W h3 h4 h i7.1 i7.2 (HEM.out _).1 (HEM.out _).2)
 clear i7 i8 i9
 clear HEM H hV
 generalize (((zat r 7) * (((1 : Int) - ((zat r 11 * zat r 7) % (p : Int))) % (p : Int))) % (p : Int)) = t3 at *
 generalize (((1 : Int) - ((zat r 11 * zat r 7) % (p : Int))) % (p : Int)) = t2 at *
 generalize ((zat r 11 * zat r 7) % (p : Int)) = t1 at *
 generalize zat r 7 = x7 at *
 generalize zat r 8 = x8 at *
 generalize zat r 9 = x9 at *
 generalize r.length = lr at *
 generalize L.length = nL at *
 go_enter Tryz.func133, Tryz.ntmps133
 go_wp2_with fail
 rw [<- hW0]
 clear hW0
 go_wp2_with fail
 go_quiet (fail)
 obtain ⟨W1, hW1⟩ := exE (W0.drewN nq)
 replace hpc : W1.cell? ⟨b, 0, none⟩ = some (.int .i64 p) := by rw [hW1]; exact hpc
 replace c0 : W1.cell? ⟨V, 0, none⟩ = some (.pointer (some ⟨b, 0, none⟩)) := by rw [hW1]; exact c0
 replace c4 : W1.cell? ⟨V, 4, none⟩ = some (.slice (some ⟨br, orr, none⟩) lr cr) := by rw [hW1]; exact c4
 replace k0 : W1.cell? ⟨w.heap.size, 0, none⟩ = some (.int .i64 9) := by rw [hW1]; exact k0
 replace k1 : W1.cell? ⟨w.heap.size, 1, none⟩ = some (.int .i64 ia) := by rw [hW1]; exact k1
 replace k2 : W1.cell? ⟨w.heap.size, 2, none⟩ = some (.int .i64 ib) := by rw [hW1]; exact k2
 replace r7 : W1.cell? ⟨br, orr + 7, none⟩ = some (.int .i64 x7) := by rw [hW1]; exact r7
 replace r8 : W1.cell? ⟨br, orr + 8, none⟩ = some (.int .i64 x8) := by rw [hW1]; exact r8
 replace r9 : W1.cell? ⟨br, orr + 9, none⟩ = some (.int .i64 x9) := by rw [hW1]; exact r9
 have QP := qpL hpc
 have HB1 : Hid (Below w.heap.size w W1) := by unfold Hid; rw [hW1]; exact below_drewN HB0.out _
 have HC0 : Hid (∀ m, Calls Tryz.prog 147 #[.pointer (some ⟨V, 0, none⟩)] (W1.drewN m) fun e w' => e = .returned (.int .i64 t1) /\ ∃ k, w' = (W1.drewN m).drewN k) := fun m => by rw [hW1, World.drewN_drewN]; exact HC0.out _
 rw [<- hW1]
 clear hW1
 go_wp2_with fail
 go_quiet (first
  | (go_at_call 147; first | with_reducible exact Calls.quiet_of (HC0.out _))
  | (go_at_call 52; first | with_reducible exact Calls.quiet_of_same (HC1.out _ (QP.out _)))
  | (go_at_call 49; first | with_reducible exact Calls.quiet_of_same (HC2.out _ (QP.out _))))
 go_wp2_with fail
 go_ret
 exact ⟨by have h := HE.out; subst h; rfl, below_drewN HB1.out _⟩
end Go.Proofs.YtjlngcmkgkiplaaGreatDoor
