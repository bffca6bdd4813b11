
import Derived.Test.YtjlngcmkgkiplaaGreatDoorWcAR
import Derived.Test.YtjlngcmkgkiplaaGreatDoorWcAS
import Derived.Test.YtjlngcmkgkiplaaGreatDoorWcAL
set_option maxRecDepth 1000000
set_option maxHeartbeats 8000000
namespace Go.Proofs.YtjlngcmkgkiplaaGreatDoor
open Go.RowKit Go.Maps
theorem vwork_10 (p b V : Nat) (L : List InsZ) (size out : Int) (r n : List Int) (aL : Option Addr) (cL : Nat) (ar : Option Addr) (cr : Nat) (an : Option Addr) (cn : Nat) (w : World) (H : VF p L size out r n) (hV : VW p b V L size out r n aL cL ar cr an cn w) (k : Nat) (ia ib ic : Int) (hi : k < 281474976710656 /\ I64 ia /\ I64 ib /\ I64 ic)  :
  Calls Tryz.prog 133 #[.pointer (some ⟨V, 0, none⟩), .int .i64 (k : Int), .agg #[.int .i64 10, .int .i64 ia, .int .i64 ib, .int .i64 ic]] w fun e w' => e = .returned (.int .i64 (tvW p r ⟨10, ia, ib, ic⟩)) /\ Below w.heap.size w w' := by
 have h3 := H.h3
 have h4 := H.h4
 obtain ⟨hk, hia, hib, hic⟩ := hi
 have HEM := hemL H
 obtain ⟨W0, hW0⟩ := exE (w.alloc (.cells #[.int .i64 10, .int .i64 ia, .int .i64 ib, .int .i64 ic] 180))
 have hb0 := blA hW0
 have hs0 := haA hW0
 have k0 := clA 0 hs0 rfl
 have k1 := clA 1 hs0 rfl
 have k2 := clA 2 hs0 rfl
 have k3 := clA 3 hs0 rfl
 replace hV := hV.below hb0
 have HB0 := hid hb0
 clear hs0 hb0
 obtain ⟨c0, c1, c2, c3, c4, c5⟩ := hV.cells
 have hpc := hV.fld
 have QP := qpL hpc
 obtain ⟨br, orr, har, hrw⟩ := hV.rowAt H.hr
 subst har
 have r0 := hrw 0 (by omega)
 rw [Nat.add_zero] at r0
 have i0 := H.fr 0
 have l0 := llL H 0
 have r7 := hrw 7 (by omega)
 have i7 := H.fr 7
 have l7 := llL H 7
 have r8 := hrw 8 (by omega)
 have i8 := H.fr 8
 have l8 := llL H 8
 have r9 := hrw 9 (by omega)
 have i9 := H.fr 9
 have l9 := llL H 9
 clear hrw
 have HE : Hid (tvW p r ⟨10, ia, ib, ic⟩ = (((zat r 7) - (zat r 0)) % (p : Int))) := by
  unfold Hid
  rw [show tvW p r ⟨10, ia, ib, ic⟩ = (zat r 7 - zat r 0) % (p : Int) from rfl]
 obtain ⟨R, hR⟩ := exE (tvW p r ⟨10, ia, ib, ic⟩)
 rw [<- hR] at HE ⊢
 clear hR
 have HC0 := hid (fun W h => sub_any p b (zat r 7) (zat r 0) W h3 h4 h i7.1 i7.2 i0.1 i0.2)
 clear i0 i7 i8 i9
 clear HEM H hV
 generalize (((zat r 7) - (zat r 0)) % (p : Int)) = t1 at *
 generalize zat r 0 = x0 at *
 generalize zat r 7 = x7 at *
 generalize zat r 8 = x8 at *
 generalize zat r 9 = x9 at *
 generalize r.length = lr at *
 generalize L.length = nL at *
 go_enter Tryz.func133, Tryz.ntmps133
 go_wp2_with fail
 rw [<- hW0]
 clear hW0
 go_wp2_with fail
 go_quiet (fail)
 obtain ⟨W1, hW1⟩ := exE (W0.drewN nq)
 replace hpc : W1.cell? ⟨b, 0, none⟩ = some (.int .i64 p) := by rw [hW1]; exact hpc
 replace c0 : W1.cell? ⟨V, 0, none⟩ = some (.pointer (some ⟨b, 0, none⟩)) := by rw [hW1]; exact c0
 replace c4 : W1.cell? ⟨V, 4, none⟩ = some (.slice (some ⟨br, orr, none⟩) lr cr) := by rw [hW1]; exact c4
 replace k0 : W1.cell? ⟨w.heap.size, 0, none⟩ = some (.int .i64 10) := by rw [hW1]; exact k0
 replace k1 : W1.cell? ⟨w.heap.size, 1, none⟩ = some (.int .i64 ia) := by rw [hW1]; exact k1
 replace k2 : W1.cell? ⟨w.heap.size, 2, none⟩ = some (.int .i64 ib) := by rw [hW1]; exact k2
 replace r7 : W1.cell? ⟨br, orr + 7, none⟩ = some (.int .i64 x7) := by rw [hW1]; exact r7
 replace r8 : W1.cell? ⟨br, orr + 8, none⟩ = some (.int .i64 x8) := by rw [hW1]; exact r8
 replace r9 : W1.cell? ⟨br, orr + 9, none⟩ = some (.int .i64 x9) := by rw [hW1]; exact r9
 replace r0 : W1.cell? ⟨br, orr, none⟩ = some (.int .i64 x0) := by rw [hW1]; exact r0
 have QP := qpL hpc
 have HB1 : Hid (Below w.heap.size w W1) := by unfold Hid; rw [hW1]; exact below_drewN HB0.out _
 rw [<- hW1]
 clear hW1
 go_wp2_with fail
 go_quiet (first
  | (go_at_call 52; first | with_reducible exact Calls.quiet_of_same (HC0.out _ (QP.out _))))
 go_wp2_with fail
 go_ret
 exact ⟨by have h := HE.out; subst h; rfl, below_drewN HB1.out _⟩
theorem vwork_12 (p b V : Nat) (L : List InsZ) (size out : Int) (r n : List Int) (aL : Option Addr) (cL : Nat) (ar : Option Addr) (cr : Nat) (an : Option Addr) (cn : Nat) (w : World) (H : VF p L size out r n) (hV : VW p b V L size out r n aL cL ar cr an cn w) (k : Nat) (ia ib ic : Int) (hi : k < 281474976710656 /\ I64 ia /\ I64 ib /\ I64 ic)  :
  Calls Tryz.prog 133 #[.pointer (some ⟨V, 0, none⟩), .int .i64 (k : Int), .agg #[.int .i64 12, .int .i64 ia, .int .i64 ib, .int .i64 ic]] w fun e w' => e = .returned (.int .i64 (tvW p r ⟨12, ia, ib, ic⟩)) /\ Below w.heap.size w w' := by
 have h3 := H.h3
 have h4 := H.h4
 obtain ⟨hk, hia, hib, hic⟩ := hi
 have HEM := hemL H
 obtain ⟨W0, hW0⟩ := exE (w.alloc (.cells #[.int .i64 12, .int .i64 ia, .int .i64 ib, .int .i64 ic] 180))
 have hb0 := blA hW0
 have hs0 := haA hW0
 have k0 := clA 0 hs0 rfl
 have k1 := clA 1 hs0 rfl
 have k2 := clA 2 hs0 rfl
 have k3 := clA 3 hs0 rfl
 replace hV := hV.below hb0
 have HB0 := hid hb0
 clear hs0 hb0
 obtain ⟨c0, c1, c2, c3, c4, c5⟩ := hV.cells
 have hpc := hV.fld
 have QP := qpL hpc
 obtain ⟨br, orr, har, hrw⟩ := hV.rowAt H.hr
 subst har
 have r2 := hrw 2 (by omega)
 have i2 := H.fr 2
 have l2 := llL H 2
 have r7 := hrw 7 (by omega)
 have i7 := H.fr 7
 have l7 := llL H 7
 have r8 := hrw 8 (by omega)
 have i8 := H.fr 8
 have l8 := llL H 8
 have r9 := hrw 9 (by omega)
 have i9 := H.fr 9
 have l9 := llL H 9
 clear hrw
 have HE : Hid (tvW p r ⟨12, ia, ib, ic⟩ = (((zat r 7) - (zat r 2)) % (p : Int))) := by
  unfold Hid
  rw [show tvW p r ⟨12, ia, ib, ic⟩ = (zat r 7 - zat r 2) % (p : Int) from rfl]
 obtain ⟨R, hR⟩ := exE (tvW p r ⟨12, ia, ib, ic⟩)
 rw [<- hR] at HE ⊢
 clear hR
 have HC0 := hid (fun W h => sub_any p b (zat r 7) (zat r 2) W h3 h4 h i7.1 i7.2 i2.1 i2.2)
 clear i2 i7 i8 i9
 clear HEM H hV
 generalize (((zat r 7) - (zat r 2)) % (p : Int)) = t1 at *
 generalize zat r 2 = x2 at *
 generalize zat r 7 = x7 at *
 generalize zat r 8 = x8 at *
 generalize zat r 9 = x9 at *
 generalize r.length = lr at *
 generalize L.length = nL at *
 go_enter Tryz.func133, Tryz.ntmps133
 go_wp2_with fail
 rw [<- hW0]
 clear hW0
 go_wp2_with fail
 go_quiet (fail)
 obtain ⟨W1, hW1⟩ := exE (W0.drewN nq)
 replace hpc : W1.cell? ⟨b, 0, none⟩ = some (.int .i64 p) := by rw [hW1]; exact hpc
 replace c0 : W1.cell? ⟨V, 0, none⟩ = some (.pointer (some ⟨b, 0, none⟩)) := by rw [hW1]; exact c0
 replace c4 : W1.cell? ⟨V, 4, none⟩ = some (.slice (some ⟨br, orr, none⟩) lr cr) := by rw [hW1]; exact c4
 replace k0 : W1.cell? ⟨w.heap.size, 0, none⟩ = some (.int .i64 12) := by rw [hW1]; exact k0
 replace k1 : W1.cell? ⟨w.heap.size, 1, none⟩ = some (.int .i64 ia) := by rw [hW1]; exact k1
 replace k2 : W1.cell? ⟨w.heap.size, 2, none⟩ = some (.int .i64 ib) := by rw [hW1]; exact k2
 replace r2 : W1.cell? ⟨br, orr + 2, none⟩ = some (.int .i64 x2) := by rw [hW1]; exact r2
 replace r7 : W1.cell? ⟨br, orr + 7, none⟩ = some (.int .i64 x7) := by rw [hW1]; exact r7
 replace r8 : W1.cell? ⟨br, orr + 8, none⟩ = some (.int .i64 x8) := by rw [hW1]; exact r8
 replace r9 : W1.cell? ⟨br, orr + 9, none⟩ = some (.int .i64 x9) := by rw [hW1]; exact r9
 have QP := qpL hpc
 have HB1 : Hid (Below w.heap.size w W1) := by unfold Hid; rw [hW1]; exact below_drewN HB0.out _
 rw [<- hW1]
 clear hW1
 go_wp2_with fail
 go_quiet (first
  | (go_at_call 52; first | with_reducible exact Calls.quiet_of_same (HC0.out _ (QP.out _))))
 go_wp2_with fail
 go_ret
 exact ⟨by have h := HE.out; subst h; rfl, below_drewN HB1.out _⟩
theorem vwork_0 (p b V : Nat) (L : List InsZ) (size out : Int) (r n : List Int) (aL : Option Addr) (cL : Nat) (ar : Option Addr) (cr : Nat) (an : Option Addr) (cn : Nat) (w : World) (H : VF p L size out r n) (hV : VW p b V L size out r n aL cL ar cr an cn w) (k : Nat) (ia ib ic : Int) (hi : k < 281474976710656 /\ I64 ia /\ I64 ib /\ I64 ic)  :
  Calls Tryz.prog 133 #[.pointer (some ⟨V, 0, none⟩), .int .i64 (k : Int), .agg #[.int .i64 0, .int .i64 ia, .int .i64 ib, .int .i64 ic]] w fun e w' => e = .returned (.int .i64 (tvW p r ⟨0, ia, ib, ic⟩)) /\ Below w.heap.size w w' := by
 have h3 := H.h3
 have h4 := H.h4
 obtain ⟨hk, hia, hib, hic⟩ := hi
 have HEM := hemL H
 obtain ⟨W0, hW0⟩ := exE (w.alloc (.cells #[.int .i64 0, .int .i64 ia, .int .i64 ib, .int .i64 ic] 180))
 have hb0 := blA hW0
 have hs0 := haA hW0
 have k0 := clA 0 hs0 rfl
 have k1 := clA 1 hs0 rfl
 have k2 := clA 2 hs0 rfl
 have k3 := clA 3 hs0 rfl
 replace hV := hV.below hb0
 have HB0 := hid hb0
 clear hs0 hb0
 obtain ⟨c0, c1, c2, c3, c4, c5⟩ := hV.cells
 have hpc := hV.fld
 have QP := qpL hpc
 obtain ⟨br, orr, har, hrw⟩ := hV.rowAt H.hr
 subst har
 have r7 := hrw 7 (by omega)
 have i7 := H.fr 7
 have l7 := llL H 7
 have r8 := hrw 8 (by omega)
 have i8 := H.fr 8
 have l8 := llL H 8
 have r9 := hrw 9 (by omega)
 have i9 := H.fr 9
 have l9 := llL H 9
 clear hrw
 have HE : Hid (tvW p r ⟨0, ia, ib, ic⟩ = 0) := rfl
 obtain ⟨R, hR⟩ := exE (tvW p r ⟨0, ia, ib, ic⟩)
 rw [<- hR] at HE ⊢
 clear hR
 clear i7 i8 i9
 clear HEM H hV
 generalize zat r 7 = x7 at *
 generalize zat r 8 = x8 at *
 generalize zat r 9 = x9 at *
 generalize r.length = lr at *
 generalize L.length = nL at *
 go_enter Tryz.func133, Tryz.ntmps133
 go_wp2_with fail
 rw [<- hW0]
 clear hW0
 go_wp2_with fail
 go_quiet (fail)
 obtain ⟨W1, hW1⟩ := exE (W0.drewN nq)
 replace hpc : W1.cell? ⟨b, 0, none⟩ = some (.int .i64 p) := by rw [hW1]; exact hpc
 replace c0 : W1.cell? ⟨V, 0, none⟩ = some (.pointer (some ⟨b, 0, none⟩)) := by rw [hW1]; exact c0
 replace c4 : W1.cell? ⟨V, 4, none⟩ = some (.slice (some ⟨br, orr, none⟩) lr cr) := by rw [hW1]; exact c4
 replace k0 : W1.cell? ⟨w.heap.size, 0, none⟩ = some (.int .i64 0) := by rw [hW1]; exact k0
 replace k1 : W1.cell? ⟨w.heap.size, 1, none⟩ = some (.int .i64 ia) := by rw [hW1]; exact k1
 replace k2 : W1.cell? ⟨w.heap.size, 2, none⟩ = some (.int .i64 ib) := by rw [hW1]; exact k2
 replace r7 : W1.cell? ⟨br, orr + 7, none⟩ = some (.int .i64 x7) := by rw [hW1]; exact r7
 replace r8 : W1.cell? ⟨br, orr + 8, none⟩ = some (.int .i64 x8) := by rw [hW1]; exact r8
 replace r9 : W1.cell? ⟨br, orr + 9, none⟩ = some (.int .i64 x9) := by rw [hW1]; exact r9
 have QP := qpL hpc
 have HB1 : Hid (Below w.heap.size w W1) := by unfold Hid; rw [hW1]; exact below_drewN HB0.out _
 rw [<- hW1]
 clear hW1
 go_wp2_with fail
 go_ret
 exact ⟨by have h := HE.out; subst h; rfl, HB1.out⟩
theorem vwork_8 (p b V : Nat) (L : List InsZ) (size out : Int) (r n : List Int) (aL : Option Addr) (cL : Nat) (ar : Option Addr) (cr : Nat) (an : Option Addr) (cn : Nat) (w : World) (H : VF p L size out r n) (hV : VW p b V L size out r n aL cL ar cr an cn w) (k : Nat) (ia ib ic : Int) (hi : k < 281474976710656 /\ I64 ia /\ I64 ib /\ I64 ic)  :
  Calls Tryz.prog 133 #[.pointer (some ⟨V, 0, none⟩), .int .i64 (k : Int), .agg #[.int .i64 8, .int .i64 ia, .int .i64 ib, .int .i64 ic]] w fun e w' => e = .returned (.int .i64 (tvW p r ⟨8, ia, ib, ic⟩)) /\ Below w.heap.size w w' := by
 have h3 := H.h3
 have h4 := H.h4
 obtain ⟨hk, hia, hib, hic⟩ := hi
 have HEM := hemL H
 obtain ⟨W0, hW0⟩ := exE (w.alloc (.cells #[.int .i64 8, .int .i64 ia, .int .i64 ib, .int .i64 ic] 180))
 have hb0 := blA hW0
 have hs0 := haA hW0
 have k0 := clA 0 hs0 rfl
 have k1 := clA 1 hs0 rfl
 have k2 := clA 2 hs0 rfl
 have k3 := clA 3 hs0 rfl
 replace hV := hV.below hb0
 have HB0 := hid hb0
 clear hs0 hb0
 obtain ⟨c0, c1, c2, c3, c4, c5⟩ := hV.cells
 have hpc := hV.fld
 have QP := qpL hpc
 obtain ⟨br, orr, har, hrw⟩ := hV.rowAt H.hr
 subst har
 have r7 := hrw 7 (by omega)
 have i7 := H.fr 7
 have l7 := llL H 7
 have r8 := hrw 8 (by omega)
 have i8 := H.fr 8
 have l8 := llL H 8
 have r9 := hrw 9 (by omega)
 have i9 := H.fr 9
 have l9 := llL H 9
 clear hrw
 have HE : Hid (tvW p r ⟨8, ia, ib, ic⟩ = 0) := rfl
 obtain ⟨R, hR⟩ := exE (tvW p r ⟨8, ia, ib, ic⟩)
 rw [<- hR] at HE ⊢
 clear hR
 clear i7 i8 i9
 clear HEM H hV
 generalize zat r 7 = x7 at *
 generalize zat r 8 = x8 at *
 generalize zat r 9 = x9 at *
 generalize r.length = lr at *
 generalize L.length = nL at *
 go_enter Tryz.func133, Tryz.ntmps133
 go_wp2_with fail
 rw [<- hW0]
 clear hW0
 go_wp2_with fail
 go_quiet (fail)
 obtain ⟨W1, hW1⟩ := exE (W0.drewN nq)
 replace hpc : W1.cell? ⟨b, 0, none⟩ = some (.int .i64 p) := by rw [hW1]; exact hpc
 replace c0 : W1.cell? ⟨V, 0, none⟩ = some (.pointer (some ⟨b, 0, none⟩)) := by rw [hW1]; exact c0
 replace c4 : W1.cell? ⟨V, 4, none⟩ = some (.slice (some ⟨br, orr, none⟩) lr cr) := by rw [hW1]; exact c4
 replace k0 : W1.cell? ⟨w.heap.size, 0, none⟩ = some (.int .i64 8) := by rw [hW1]; exact k0
 replace k1 : W1.cell? ⟨w.heap.size, 1, none⟩ = some (.int .i64 ia) := by rw [hW1]; exact k1
 replace k2 : W1.cell? ⟨w.heap.size, 2, none⟩ = some (.int .i64 ib) := by rw [hW1]; exact k2
 replace r7 : W1.cell? ⟨br, orr + 7, none⟩ = some (.int .i64 x7) := by rw [hW1]; exact r7
 replace r8 : W1.cell? ⟨br, orr + 8, none⟩ = some (.int .i64 x8) := by rw [hW1]; exact r8
 replace r9 : W1.cell? ⟨br, orr + 9, none⟩ = some (.int .i64 x9) := by rw [hW1]; exact r9
 have QP := qpL hpc
 have HB1 : Hid (Below w.heap.size w W1) := by unfold Hid; rw [hW1]; exact below_drewN HB0.out _
 rw [<- hW1]
 clear hW1
 go_wp2_with fail
 go_ret
 exact ⟨by have h := HE.out; subst h; rfl, HB1.out⟩
theorem vwork_11 (p b V : Nat) (L : List InsZ) (size out : Int) (r n : List Int) (aL : Option Addr) (cL : Nat) (ar : Option Addr) (cr : Nat) (an : Option Addr) (cn : Nat) (w : World) (H : VF p L size out r n) (hV : VW p b V L size out r n aL cL ar cr an cn w) (k : Nat) (ia ib ic : Int) (hi : k < 281474976710656 /\ I64 ia /\ I64 ib /\ I64 ic)  :
  Calls Tryz.prog 133 #[.pointer (some ⟨V, 0, none⟩), .int .i64 (k : Int), .agg #[.int .i64 11, .int .i64 ia, .int .i64 ib, .int .i64 ic]] w fun e w' => e = .returned (.int .i64 (tvW p r ⟨11, ia, ib, ic⟩)) /\ Below w.heap.size w w' := by
 have h3 := H.h3
 have h4 := H.h4
 obtain ⟨hk, hia, hib, hic⟩ := hi
 have HEM := hemL H
 obtain ⟨W0, hW0⟩ := exE (w.alloc (.cells #[.int .i64 11, .int .i64 ia, .int .i64 ib, .int .i64 ic] 180))
 have hb0 := blA hW0
 have hs0 := haA hW0
 have k0 := clA 0 hs0 rfl
 have k1 := clA 1 hs0 rfl
 have k2 := clA 2 hs0 rfl
 have k3 := clA 3 hs0 rfl
 replace hV := hV.below hb0
 have HB0 := hid hb0
 clear hs0 hb0
 obtain ⟨c0, c1, c2, c3, c4, c5⟩ := hV.cells
 have hpc := hV.fld
 have QP := qpL hpc
 obtain ⟨br, orr, har, hrw⟩ := hV.rowAt H.hr
 subst har
 have r7 := hrw 7 (by omega)
 have i7 := H.fr 7
 have l7 := llL H 7
 have r8 := hrw 8 (by omega)
 have i8 := H.fr 8
 have l8 := llL H 8
 have r9 := hrw 9 (by omega)
 have i9 := H.fr 9
 have l9 := llL H 9
 clear hrw
 have HE : Hid (tvW p r ⟨11, ia, ib, ic⟩ = 0) := rfl
 obtain ⟨R, hR⟩ := exE (tvW p r ⟨11, ia, ib, ic⟩)
 rw [<- hR] at HE ⊢
 clear hR
 clear i7 i8 i9
 clear HEM H hV
 generalize zat r 7 = x7 at *
 generalize zat r 8 = x8 at *
 generalize zat r 9 = x9 at *
 generalize r.length = lr at *
 generalize L.length = nL at *
 go_enter Tryz.func133, Tryz.ntmps133
 go_wp2_with fail
 rw [<- hW0]
 clear hW0
 go_wp2_with fail
 go_quiet (fail)
 obtain ⟨W1, hW1⟩ := exE (W0.drewN nq)
 replace hpc : W1.cell? ⟨b, 0, none⟩ = some (.int .i64 p) := by rw [hW1]; exact hpc
 replace c0 : W1.cell? ⟨V, 0, none⟩ = some (.pointer (some ⟨b, 0, none⟩)) := by rw [hW1]; exact c0
 replace c4 : W1.cell? ⟨V, 4, none⟩ = some (.slice (some ⟨br, orr, none⟩) lr cr) := by rw [hW1]; exact c4
 replace k0 : W1.cell? ⟨w.heap.size, 0, none⟩ = some (.int .i64 11) := by rw [hW1]; exact k0
 replace k1 : W1.cell? ⟨w.heap.size, 1, none⟩ = some (.int .i64 ia) := by rw [hW1]; exact k1
 replace k2 : W1.cell? ⟨w.heap.size, 2, none⟩ = some (.int .i64 ib) := by rw [hW1]; exact k2
 replace r7 : W1.cell? ⟨br, orr + 7, none⟩ = some (.int .i64 x7) := by rw [hW1]; exact r7
 replace r8 : W1.cell? ⟨br, orr + 8, none⟩ = some (.int .i64 x8) := by rw [hW1]; exact r8
 replace r9 : W1.cell? ⟨br, orr + 9, none⟩ = some (.int .i64 x9) := by rw [hW1]; exact r9
 have QP := qpL hpc
 have HB1 : Hid (Below w.heap.size w W1) := by unfold Hid; rw [hW1]; exact below_drewN HB0.out _
 rw [<- hW1]
 clear hW1
 go_wp2_with fail
 go_ret
 exact ⟨by have h := HE.out; subst h; rfl, HB1.out⟩
theorem vwork_x (p b V : Nat) (L : List InsZ) (size out : Int) (r n : List Int) (aL : Option Addr) (cL : Nat) (ar : Option Addr) (cr : Nat) (an : Option Addr) (cn : Nat) (w : World) (H : VF p L size out r n) (hV : VW p b V L size out r n aL cL ar cr an cn w) (k : Nat) (ia ib ic : Int) (hi : k < 281474976710656 /\ I64 ia /\ I64 ib /\ I64 ic) (op : Int) (hno : op ≠ 0 /\ op ≠ 1 /\ op ≠ 2 /\ op ≠ 3 /\ op ≠ 4 /\ op ≠ 5 /\ op ≠ 6 /\ op ≠ 7 /\ op ≠ 8 /\ op ≠ 9 /\ op ≠ 10 /\ op ≠ 11 /\ op ≠ 12 /\ op ≠ 13)  :
  Calls Tryz.prog 133 #[.pointer (some ⟨V, 0, none⟩), .int .i64 (k : Int), .agg #[.int .i64 op, .int .i64 ia, .int .i64 ib, .int .i64 ic]] w fun e w' => e = .returned (.int .i64 (tvW p r ⟨op, ia, ib, ic⟩)) /\ Below w.heap.size w w' := by
 have h3 := H.h3
 have h4 := H.h4
 obtain ⟨hk, hia, hib, hic⟩ := hi
 have HEM := hemL H
 obtain ⟨W0, hW0⟩ := exE (w.alloc (.cells #[.int .i64 op, .int .i64 ia, .int .i64 ib, .int .i64 ic] 180))
 have hb0 := blA hW0
 have hs0 := haA hW0
 have k0 := clA 0 hs0 rfl
 have k1 := clA 1 hs0 rfl
 have k2 := clA 2 hs0 rfl
 have k3 := clA 3 hs0 rfl
 replace hV := hV.below hb0
 have HB0 := hid hb0
 clear hs0 hb0
 obtain ⟨c0, c1, c2, c3, c4, c5⟩ := hV.cells
 have hpc := hV.fld
 have QP := qpL hpc
 obtain ⟨br, orr, har, hrw⟩ := hV.rowAt H.hr
 subst har
 have r7 := hrw 7 (by omega)
 have i7 := H.fr 7
 have l7 := llL H 7
 have r8 := hrw 8 (by omega)
 have i8 := H.fr 8
 have l8 := llL H 8
 have r9 := hrw 9 (by omega)
 have i9 := H.fr 9
 have l9 := llL H 9
 clear hrw
 have q0 : (op == 0) = false := by rw [beq_eq_false_iff_ne]; omega
 have q1 : (op == 1) = false := by rw [beq_eq_false_iff_ne]; omega
 have q2 : (op == 2) = false := by rw [beq_eq_false_iff_ne]; omega
 have q3 : (op == 3) = false := by rw [beq_eq_false_iff_ne]; omega
 have q4 : (op == 4) = false := by rw [beq_eq_false_iff_ne]; omega
 have q5 : (op == 5) = false := by rw [beq_eq_false_iff_ne]; omega
 have q6 : (op == 6) = false := by rw [beq_eq_false_iff_ne]; omega
 have q7 : (op == 7) = false := by rw [beq_eq_false_iff_ne]; omega
 have q8 : (op == 8) = false := by rw [beq_eq_false_iff_ne]; omega
 have q9 : (op == 9) = false := by rw [beq_eq_false_iff_ne]; omega
 have q10 : (op == 10) = false := by rw [beq_eq_false_iff_ne]; omega
 have q11 : (op == 11) = false := by rw [beq_eq_false_iff_ne]; omega
 have q12 : (op == 12) = false := by rw [beq_eq_false_iff_ne]; omega
 have q13 : (op == 13) = false := by rw [beq_eq_false_iff_ne]; omega
 have HE : Hid (tvW p r ⟨op, ia, ib, ic⟩ = 1) := by unfold Hid; simp [tvW, hno]
 obtain ⟨R, hR⟩ := exE (tvW p r ⟨op, ia, ib, ic⟩)
 rw [<- hR] at HE ⊢
 clear hR
 clear i7 i8 i9
 clear HEM H hV
 generalize zat r 7 = x7 at *
 generalize zat r 8 = x8 at *
 generalize zat r 9 = x9 at *
 generalize r.length = lr at *
 generalize L.length = nL at *
 go_enter Tryz.func133, Tryz.ntmps133
 go_wp2_with fail
 rw [<- hW0]
 clear hW0
 go_wp2_with fail
 go_quiet (fail)
 obtain ⟨W1, hW1⟩ := exE (W0.drewN nq)
 replace hpc : W1.cell? ⟨b, 0, none⟩ = some (.int .i64 p) := by rw [hW1]; exact hpc
 replace c0 : W1.cell? ⟨V, 0, none⟩ = some (.pointer (some ⟨b, 0, none⟩)) := by rw [hW1]; exact c0
 replace c4 : W1.cell? ⟨V, 4, none⟩ = some (.slice (some ⟨br, orr, none⟩) lr cr) := by rw [hW1]; exact c4
 replace k0 : W1.cell? ⟨w.heap.size, 0, none⟩ = some (.int .i64 op) := by rw [hW1]; exact k0
 replace k1 : W1.cell? ⟨w.heap.size, 1, none⟩ = some (.int .i64 ia) := by rw [hW1]; exact k1
 replace k2 : W1.cell? ⟨w.heap.size, 2, none⟩ = some (.int .i64 ib) := by rw [hW1]; exact k2
 replace r7 : W1.cell? ⟨br, orr + 7, none⟩ = some (.int .i64 x7) := by rw [hW1]; exact r7
 replace r8 : W1.cell? ⟨br, orr + 8, none⟩ = some (.int .i64 x8) := by rw [hW1]; exact r8
 replace r9 : W1.cell? ⟨br, orr + 9, none⟩ = some (.int .i64 x9) := by rw [hW1]; exact r9
 have QP := qpL hpc
 have HB1 : Hid (Below w.heap.size w W1) := by unfold Hid; rw [hW1]; exact below_drewN HB0.out _
 rw [<- hW1]
 clear hW1
 go_wp2_with fail
 go_ret
 exact ⟨by have h := HE.out; subst h; rfl, HB1.out⟩
def TmF (V : Nat) (L : List InsZ) (w : World) (F : FuncId) (f : Nat -> InsZ -> Int) : Prop := (∀ (args : Array Value) (w1 : World), (callFunc F args).run Tryz.prog w1 = .ok (.enter F args) w1) /\
 (∀ k, k < L.length -> I64 (f k (insat L k))) /\
 ∀ (W : World) (k : Nat), Below w.heap.size w W -> k < L.length -> Calls Tryz.prog F #[.pointer (some ⟨V, 0, none⟩), .int .i64 (k : Int), .agg #[.int .i64 (insat L k).op, .int .i64 (insat L k).a, .int .i64 (insat L k).b, .int .i64 (insat L k).c]] W fun e w' => e = .returned (.int .i64 (f k (insat L k))) /\ Below W.heap.size W w'
theorem vsum_any (p b V : Nat) (L : List InsZ) (size out : Int) (r n : List Int) (aL : Option Addr) (cL : Nat) (ar : Option Addr) (cr : Nat) (an : Option Addr) (cn : Nat) (w : World) (H : VF p L size out r n) (hV : VW p b V L size out r n aL cL ar cr an cn w) (s : List Int) (sa : Option Addr) (cs : Nat) (hs : RowB w.heap.size w sa s) (hsl : s.length = 20 + L.length) (fs : ∀ j, I64 (zat s j)) (F : FuncId) (f : Nat -> InsZ -> Int) (hF : TmF V L w F f) :
  Calls Tryz.prog 128 #[.pointer (some ⟨V, 0, none⟩), .slice sa s.length cs, .func (.func F) #[.pointer (some ⟨V, 0, none⟩)] #[]] w fun e w' => e = .returned (.int .i64 (smt p L s f)) /\ Below w.heap.size w w' := by
 have h3 := H.h3
 have h4 := H.h4
 obtain ⟨hcf, hfb, hfc⟩ := hF
 obtain ⟨bs, os, has, hsw⟩ := rowB_at hs hsl
 subst has
 obtain ⟨nL, hnL⟩ := exE (L.length)
 have HNL := hid hnL
 have hl := H.hl
 obtain ⟨c0, c1, c2, c3, c4, c5⟩ := hV.cells
 rw [<- hnL] at hl c2
 have HV := hid hV
 have HSW := hid hsw
 have HFB := hid hfb
 have HFC := hid hfc
 have HFS := hid fs
 have HE : Hid (smt p L s f = smz p (sel s) (fun k => f k (insat L k)) nL) := by unfold Hid; rw [hnL]; rfl
 obtain ⟨R, hR⟩ := exE (smt p L s f)
 rw [<- hR] at HE ⊢
 have hsl2 : (s.length : Int) = 20 + (nL : Int) := by omega
 have HSL := hid hsl2
 obtain ⟨ln, hln⟩ := exE (s.length)
 have HLN := hid hln
 rw [<- hln]
 clear hnL hsw hfb hfc fs hR hsl hsl2 hs hln
 go_enter Tryz.func128, Tryz.ntmps128
 go_wp2_with fail
 go_loopw [7, 16] (fun ov iv wr => ∃ k : Nat, k <= nL /\ iv = .int .i64 k /\ ov = .int .i64 (smz p (sel s) (fun k => f k (insat L k)) k) /\ Hid (Below w.heap.size w wr)) (fun _ iv _ => nL - (intOf iv).toNat)
 case atStart => exact ⟨0, Nat.zero_le _, rfl, rfl, Below.refl _ _⟩
 case round =>
  obtain ⟨k, hk, rfl, rfl, HBw⟩ := hrel
  by_cases hlt : k < nL
  ·have hlt2 : (k : Int) < (nL : Int) := by omega
   have hks : IntKind.i64.wrap ((k : Int) + 1) = (k : Int) + 1 := by rw [IntKind.wrap_i64]; omega
   have hVw := HV.out.below HBw.out
   obtain ⟨g, o, rfl, hg, i0, i1, i2, i3⟩ := hVw.ins.row k (by have := HNL.out; omega)
   obtain ⟨W1, hW1⟩ := exE (wr.alloc (.cells #[.int .i64 (insat L k).op, .int .i64 (insat L k).a, .int .i64 (insat L k).b, .int .i64 (insat L k).c] 180))
   have hb1 := blA hW1
   have hi1 := haA hW1
   have hV1 := hVw.below hb1
   obtain ⟨I, hI⟩ := exE (wr.heap.size)
   rw [<- hI] at hi1
   have hbw1 := HBw.out.trans (hb1.mono HBw.out.size)
   obtain ⟨m, hm⟩ := exE (20 + k)
   have em : 20 + (k : Int) = (m : Int) := by omega
   have wm : IntKind.i64.wrap (m : Int) = (m : Int) := by rw [IntKind.wrap_i64]; omega
   have lm : (m : Int) < (ln : Int) := by have := HSL.out; have := HLN.out; omega
   have hsc : wr.cell? ⟨bs, os + m, none⟩ = some (.int .i64 (zat s m)) := (HBw.out.cell (p := ⟨bs, os + m, none⟩) (World.block_lt_of_cell? _ _ (HSW.out m (by have := HNL.out; omega)))).trans (HSW.out m (by have := HNL.out; omega))
   have HK : Hid (∀ W, Below W1.heap.size W1 W -> (W.cell? ⟨V, 0, none⟩ = some (.pointer (some ⟨b, 0, none⟩)) /\ W.cell? ⟨bs, os + m, none⟩ = some (.int .i64 (zat s m)) /\ W.cell? ⟨I, 0, none⟩ = some (.int .i64 (insat L k).op) /\ W.cell? ⟨I, 1, none⟩ = some (.int .i64 (insat L k).a) /\ W.cell? ⟨I, 2, none⟩ = some (.int .i64 (insat L k).b) /\ W.cell? ⟨I, 3, none⟩ = some (.int .i64 (insat L k).c))) := fun W h => by
    have hbw := hb1.trans (h.mono hb1.size)
    have hi2 := (h.block I (Array.getElem?_eq_some_iff.1 hi1).1).trans hi1
    exact ⟨(hV1.below h).cells.1, (hbw.cell (p := ⟨bs, os + m, none⟩) (World.block_lt_of_cell? _ _ hsc)).trans hsc, by simp [World.cell?, hi2], by simp [World.cell?, hi2], by simp [World.cell?, hi2], by simp [World.cell?, hi2]⟩
   have hfi := HFB.out k (by have := HNL.out; omega)
   have bs0 := smz_bd h3 (sel s) (fun k => f k (insat L k)) k
   have bm := emod_bounds (zat s m * f k (insat L k)) p h3
   have HTM : Hid (∀ W, Below W1.heap.size W1 W -> Calls Tryz.prog F #[.pointer (some ⟨V, 0, none⟩), .int .i64 (k : Int), .agg #[.int .i64 (insat L k).op, .int .i64 (insat L k).a, .int .i64 (insat L k).b, .int .i64 (insat L k).c]] W fun e w' => e = .returned (.int .i64 (f k (insat L k))) /\ Below W1.heap.size W1 w') := fun W h =>
    (HFC.out W k (hbw1.trans (h.mono hbw1.size)) (by have := HNL.out; omega)).mono (fun _ _ hh => ⟨hh.1, h.trans (hh.2.mono h.size)⟩)
   have HML : Hid (∀ W, Below W1.heap.size W1 W -> Calls Tryz.prog 49 #[.pointer (some ⟨b, 0, none⟩), .int .i64 (zat s m), .int .i64 (f k (insat L k))] W fun e w' => e = .returned (.int .i64 (zat s m * f k (insat L k) % (p : Int))) /\ Below W1.heap.size W1 w') := fun W h => by
    refine (mul_any p b _ _ W h3 h4 (hV1.below h).fld (HFS.out m).1 (HFS.out m).2 hfi.1 hfi.2).mono ?_
    rintro e w' ⟨rfl, rfl⟩
    exact ⟨rfl, h⟩
   have HAD : Hid (∀ W, Below W1.heap.size W1 W -> Calls Tryz.prog 92 #[.pointer (some ⟨b, 0, none⟩), .int .i64 (smz p (sel s) (fun k => f k (insat L k)) k), .int .i64 (zat s m * f k (insat L k) % (p : Int))] W fun e w' => e = .returned (.int .i64 (smz p (sel s) (fun k => f k (insat L k)) (k + 1))) /\ Below W1.heap.size W1 w') := fun W h => by
    rw [smz, <- em_add2, show sel s k = zat s m by rw [hm]; rfl]
    refine (add_any p b _ _ W h3 h4 (hV1.below h).fld (by omega) (by omega) (by omega) (by omega)).mono ?_
    rintro e w' ⟨rfl, rfl⟩
    exact ⟨rfl, h⟩
   obtain ⟨t2, ht2⟩ : ∃ t, t = smz p (sel s) (fun k => f k (insat L k)) (k + 1) := ⟨_, rfl⟩
   have HT2 := hid ht2
   rw [<- ht2] at HAD
   generalize zat s m * f k (insat L k) % (p : Int) = t1 at *
   generalize smz p (sel s) (fun k => f k (insat L k)) k = t0 at *
   generalize f k (insat L k) = fk at *
   generalize zat s m = sm at *
   generalize (insat L k).op = op at *
   generalize (insat L k).a = ia at *
   generalize (insat L k).b = ib at *
   generalize (insat L k).c = ic at *
   have HB1 := hid hbw1
   have hdd : Below W1.heap.size W1 W1.drew := (Below.refl _ _).drew
   have hd0 : Below W1.heap.size W1 W1 := Below.refl _ _
   clear hVw hb1 hi1 hV1 hbw1 hsc hfi bs0 bm ht2 hm HFC
   go_wp2_with fail
   rw [<- hW1, <- hI]
   clear hW1 hI i0 i1 i2 i3
   go_region_held3 (fun W => W.cell? ⟨V, 0, none⟩ = some (.pointer (some ⟨b, 0, none⟩)) /\ W.cell? ⟨bs, os + m, none⟩ = some (.int .i64 sm) /\ W.cell? ⟨I, 0, none⟩ = some (.int .i64 op) /\ W.cell? ⟨I, 1, none⟩ = some (.int .i64 ia) /\ W.cell? ⟨I, 2, none⟩ = some (.int .i64 ib) /\ W.cell? ⟨I, 3, none⟩ = some (.int .i64 ic)) (exact HK.out _ (by assumption))
    (first
     | (go_at_call 49; refine (HML.out _ (by assumption)).mono ?_; rintro e w' ⟨rfl, hb'⟩)
     | (go_at_call 92; refine (HAD.out _ (by assumption)).mono ?_; rintro e w' ⟨rfl, hb'⟩)
     | (refine (HTM.out _ (by assumption)).mono ?_; rintro e w' ⟨rfl, hb'⟩))
   have HBZ := hid (HB1.out.trans (hb'.mono HB1.out.size))
   go_wp2_with fail
   go_roundw
   case rel => exact ⟨k + 1, by omega, by go_num, by rw [HT2.out], HBZ⟩
   case measure => simp [intOf]; omega
  ·have hlt2 : ¬ (k : Int) < (nL : Int) := by omega
   obtain rfl : k = nL := by omega
   go_wp2_with fail
   go_ret
   exact ⟨by rw [HE.out]; rfl, HBw.out⟩
theorem vwork_any (p b V : Nat) (L : List InsZ) (size out : Int) (r n : List Int) (aL : Option Addr) (cL : Nat) (ar : Option Addr) (cr : Nat) (an : Option Addr) (cn : Nat) (w : World) (H : VF p L size out r n) (hV : VW p b V L size out r n aL cL ar cr an cn w) (k : Nat) (op ia ib ic : Int) (hi : k < 281474976710656 /\ I64 ia /\ I64 ib /\ I64 ic) :
  Calls Tryz.prog 133 #[.pointer (some ⟨V, 0, none⟩), .int .i64 (k : Int), .agg #[.int .i64 op, .int .i64 ia, .int .i64 ib, .int .i64 ic]] w fun e w' => e = .returned (.int .i64 (tvW p r ⟨op, ia, ib, ic⟩)) /\ Below w.heap.size w w' := by
 by_cases g0 : op = 0; · subst g0; exact vwork_0 p b V L size out r n aL cL ar cr an cn w H hV k ia ib ic hi
 by_cases g1 : op = 1; · subst g1; exact vwork_1 p b V L size out r n aL cL ar cr an cn w H hV k ia ib ic hi
 by_cases g2 : op = 2; · subst g2; exact vwork_2 p b V L size out r n aL cL ar cr an cn w H hV k ia ib ic hi
 by_cases g3 : op = 3; · subst g3; exact vwork_3 p b V L size out r n aL cL ar cr an cn w H hV k ia ib ic hi
 by_cases g4 : op = 4; · subst g4; exact vwork_4 p b V L size out r n aL cL ar cr an cn w H hV k ia ib ic hi
 by_cases g5 : op = 5; · subst g5; exact vwork_5 p b V L size out r n aL cL ar cr an cn w H hV k ia ib ic hi
 by_cases g6 : op = 6; · subst g6; exact vwork_6 p b V L size out r n aL cL ar cr an cn w H hV k ia ib ic hi
 by_cases g7 : op = 7; · subst g7; exact vwork_7 p b V L size out r n aL cL ar cr an cn w H hV k ia ib ic hi
 by_cases g8 : op = 8; · subst g8; exact vwork_8 p b V L size out r n aL cL ar cr an cn w H hV k ia ib ic hi
 by_cases g9 : op = 9; · subst g9; exact vwork_9 p b V L size out r n aL cL ar cr an cn w H hV k ia ib ic hi
 by_cases g10 : op = 10; · subst g10; exact vwork_10 p b V L size out r n aL cL ar cr an cn w H hV k ia ib ic hi
 by_cases g11 : op = 11; · subst g11; exact vwork_11 p b V L size out r n aL cL ar cr an cn w H hV k ia ib ic hi
 by_cases g12 : op = 12; · subst g12; exact vwork_12 p b V L size out r n aL cL ar cr an cn w H hV k ia ib ic hi
 by_cases g13 : op = 13; · subst g13; exact vwork_13 p b V L size out r n aL cL ar cr an cn w H hV k ia ib ic hi
 exact vwork_x p b V L size out r n aL cL ar cr an cn w H hV k ia ib ic hi op ⟨g0, g1, g2, g3, g4, g5, g6, g7, g8, g9, g10, g11, g12, g13⟩
theorem vmore_any (p b V : Nat) (L : List InsZ) (size out : Int) (r n : List Int) (aL : Option Addr) (cL : Nat) (ar : Option Addr) (cr : Nat) (an : Option Addr) (cn : Nat) (w : World) (H : VF p L size out r n) (hV : VW p b V L size out r n aL cL ar cr an cn w) (k : Nat) (op ia ib ic : Int) (hi : k < 281474976710656 /\ I64 ia /\ I64 ib /\ I64 ic) :
  Calls Tryz.prog 134 #[.pointer (some ⟨V, 0, none⟩), .int .i64 (k : Int), .agg #[.int .i64 op, .int .i64 ia, .int .i64 ib, .int .i64 ic]] w fun e w' => e = .returned (.int .i64 (tvM p r k ⟨op, ia, ib, ic⟩)) /\ Below w.heap.size w w' := by
 by_cases g4 : op = 4; · subst g4; exact vmore_4 p b V L size out r n aL cL ar cr an cn w H hV k ia ib ic hi
 by_cases g6 : op = 6; · subst g6; exact vmore_6 p b V L size out r n aL cL ar cr an cn w H hV k ia ib ic hi
 by_cases g10 : op = 10; · subst g10; exact vmore_10 p b V L size out r n aL cL ar cr an cn w H hV k ia ib ic hi
 exact vmore_x p b V L size out r n aL cL ar cr an cn w H hV k ia ib ic hi op ⟨g4, g6, g10⟩
theorem vpc_any (p b V : Nat) (L : List InsZ) (size out : Int) (r n : List Int) (aL : Option Addr) (cL : Nat) (ar : Option Addr) (cr : Nat) (an : Option Addr) (cn : Nat) (w : World) (H : VF p L size out r n) (hV : VW p b V L size out r n aL cL ar cr an cn w) (k : Nat) (op ia ib ic : Int) (hi : k < 281474976710656 /\ I64 ia /\ I64 ib /\ I64 ic) :
  Calls Tryz.prog 136 #[.pointer (some ⟨V, 0, none⟩), .int .i64 (k : Int), .agg #[.int .i64 op, .int .i64 ia, .int .i64 ib, .int .i64 ic]] w fun e w' => e = .returned (.int .i64 (tvN p r k ⟨op, ia, ib, ic⟩)) /\ Below w.heap.size w w' := by
 by_cases g0 : op = 0; · subst g0; exact vpc_0 p b V L size out r n aL cL ar cr an cn w H hV k ia ib ic hi
 by_cases g8 : op = 8; · subst g8; exact vpc_8 p b V L size out r n aL cL ar cr an cn w H hV k ia ib ic hi
 by_cases g9 : op = 9; · subst g9; exact vpc_9 p b V L size out r n aL cL ar cr an cn w H hV k ia ib ic hi
 by_cases g10 : op = 10; · subst g10; exact vpc_10 p b V L size out r n aL cL ar cr an cn w H hV k ia ib ic hi
 by_cases g11 : op = 11; · subst g11; exact vpc_11 p b V L size out r n aL cL ar cr an cn w H hV k ia ib ic hi
 exact vpc_x p b V L size out r n aL cL ar cr an cn w H hV k ia ib ic hi op ⟨g0, g8, g9, g10, g11⟩
theorem vfp_any (p b V : Nat) (L : List InsZ) (size out : Int) (r n : List Int) (aL : Option Addr) (cL : Nat) (ar : Option Addr) (cr : Nat) (an : Option Addr) (cn : Nat) (w : World) (H : VF p L size out r n) (hV : VW p b V L size out r n aL cL ar cr an cn w) (k : Nat) (op ia ib ic : Int) (hi : k < 281474976710656 /\ I64 ia /\ I64 ib /\ I64 ic) :
  Calls Tryz.prog 137 #[.pointer (some ⟨V, 0, none⟩), .int .i64 (k : Int), .agg #[.int .i64 op, .int .i64 ia, .int .i64 ib, .int .i64 ic]] w fun e w' => e = .returned (.int .i64 (tvF p r ⟨op, ia, ib, ic⟩)) /\ Below w.heap.size w w' := by
 by_cases g10 : op = 10; · subst g10; exact vfp_10 p b V L size out r n aL cL ar cr an cn w H hV k ia ib ic hi
 by_cases g11 : op = 11; · subst g11; exact vfp_11 p b V L size out r n aL cL ar cr an cn w H hV k ia ib ic hi
 exact vfp_x p b V L size out r n aL cL ar cr an cn w H hV k ia ib ic hi op ⟨g10, g11⟩
theorem vap_any (p b V : Nat) (L : List InsZ) (size out : Int) (r n : List Int) (aL : Option Addr) (cL : Nat) (ar : Option Addr) (cr : Nat) (an : Option Addr) (cn : Nat) (w : World) (H : VF p L size out r n) (hV : VW p b V L size out r n aL cL ar cr an cn w) (k : Nat) (op ia ib ic : Int) (hi : k < 281474976710656 /\ I64 ia /\ I64 ib /\ I64 ic) :
  Calls Tryz.prog 138 #[.pointer (some ⟨V, 0, none⟩), .int .i64 (k : Int), .agg #[.int .i64 op, .int .i64 ia, .int .i64 ib, .int .i64 ic]] w fun e w' => e = .returned (.int .i64 (tvA p r ⟨op, ia, ib, ic⟩)) /\ Below w.heap.size w w' := by
 by_cases g10 : op = 10; · subst g10; exact vap_10 p b V L size out r n aL cL ar cr an cn w H hV k ia ib ic hi
 exact vap_x p b V L size out r n aL cL ar cr an cn w H hV k ia ib ic hi op g10
theorem vrv_any (p b V : Nat) (L : List InsZ) (size out : Int) (r n : List Int) (aL : Option Addr) (cL : Nat) (ar : Option Addr) (cr : Nat) (an : Option Addr) (cn : Nat) (w : World) (H : VF p L size out r n) (hV : VW p b V L size out r n aL cL ar cr an cn w) (k : Nat) (op ia ib ic : Int) (hi : k < 281474976710656 /\ I64 ia /\ I64 ib /\ I64 ic) :
  Calls Tryz.prog 139 #[.pointer (some ⟨V, 0, none⟩), .int .i64 (k : Int), .agg #[.int .i64 op, .int .i64 ia, .int .i64 ib, .int .i64 ic]] w fun e w' => e = .returned (.int .i64 (tvR r ⟨op, ia, ib, ic⟩)) /\ Below w.heap.size w w' := by
 by_cases g11 : op = 11; · subst g11; exact vrv_11 p b V L size out r n aL cL ar cr an cn w H hV k ia ib ic hi
 exact vrv_x p b V L size out r n aL cL ar cr an cn w H hV k ia ib ic hi op g11
theorem vhalts_any (p b V : Nat) (L : List InsZ) (size out : Int) (r n : List Int) (aL : Option Addr) (cL : Nat) (ar : Option Addr) (cr : Nat) (an : Option Addr) (cn : Nat) (w : World) (H : VF p L size out r n) (hV : VW p b V L size out r n aL cL ar cr an cn w) (k : Nat) (op ia ib ic : Int) (hi : k < 281474976710656 /\ I64 ia /\ I64 ib /\ I64 ic) :
  Calls Tryz.prog 140 #[.pointer (some ⟨V, 0, none⟩), .int .i64 (k : Int), .agg #[.int .i64 op, .int .i64 ia, .int .i64 ib, .int .i64 ic]] w fun e w' => e = .returned (.int .i64 (tvH ⟨op, ia, ib, ic⟩)) /\ Below w.heap.size w w' := by
 by_cases g0 : op = 0; · subst g0; exact vhalts_0 p b V L size out r n aL cL ar cr an cn w H hV k ia ib ic hi
 exact vhalts_x p b V L size out r n aL cL ar cr an cn w H hV k ia ib ic hi op g0
theorem enters_fn {P : Program} {f : FuncId} {fn : Func} (hf : P.funcs[f]? = some fn) (hb : fn.body.isNone = false) (hn : (fn.name == "runtime.NumGoroutine") = false) (args : Array Value) (w : World) : (callFunc f args).run P w = .ok (.enter f args) w := by
 simp only [callFunc, Sem.run_bind, run_program, Result.andThen_ok, hf, hn, hb]
 rfl
theorem em_I64 {p : Nat} (h3 : 3 <= p) (h4 : p <= 2147483647) (a : Int) : I64 (a % (p : Int)) := by have := emod_bounds a p h3; unfold I64; omega
theorem ite_I64 {c : Prop} [Decidable c] {a b : Int} (ha : I64 a) (hb : I64 b) : I64 (if c then a else b) := by split <;> assumption
theorem I64_small (x : Int) (h : 0 <= x /\ x <= 281474976710656 := by omega) : I64 x := by unfold I64; omega
theorem cel3_I64 {p : Nat} (e : ∀ a : Int, I64 (a % (p : Int))) (op a b c fp ap : Int) (i : Nat) : I64 (cel3 p op a b c fp ap i) := by
 have z : I64 0 := I64_small 0
 unfold cel3
 exact ite_I64 (ite_I64 (e _) (ite_I64 (e _) (e _))) (ite_I64 (ite_I64 (e _) (ite_I64 (e _) z)) (ite_I64 (ite_I64 (e _) z) (ite_I64 (ite_I64 (e _) (ite_I64 (e _) z)) (ite_I64 (ite_I64 (e _) (ite_I64 (e _) (e _))) (ite_I64 (ite_I64 (e _) (ite_I64 (e _) z)) z)))))
theorem tm_work (p b V : Nat) (L : List InsZ) (size out : Int) (r n : List Int) (aL : Option Addr) (cL : Nat) (ar : Option Addr) (cr : Nat) (an : Option Addr) (cn : Nat) (w : World) (H : VF p L size out r n) (hV : VW p b V L size out r n aL cL ar cr an cn w) : TmF V L w 133 (fun _ => tvW p r) := by
 have e := em_I64 H.h3 H.h4
 have z : I64 0 := I64_small 0
 have u : I64 1 := I64_small 1
 refine ⟨enters_fn Tryz.func133 (by kernel_rfl) (by kernel_rfl), fun k hk => ?_, fun W k hb hk => ?_⟩
 ·have hl := H.hl
  have hi := H.hI k hk
  unfold tvW; exact ite_I64 (e _) (ite_I64 (e _) (ite_I64 (e _) (ite_I64 (e _) (ite_I64 (e _) (ite_I64 (e _) (ite_I64 (e _) (ite_I64 (e _) (ite_I64 (e _) (ite_I64 (e _) (ite_I64 z u))))))))))
 ·have hl := H.hl
  have hi := H.hI k hk
  exact vwork_any p b V L size out r n aL cL ar cr an cn W H (hV.below hb) k _ _ _ _ ⟨by omega, hi.2.1, hi.2.2.1, hi.2.2.2⟩
theorem tm_more (p b V : Nat) (L : List InsZ) (size out : Int) (r n : List Int) (aL : Option Addr) (cL : Nat) (ar : Option Addr) (cr : Nat) (an : Option Addr) (cn : Nat) (w : World) (H : VF p L size out r n) (hV : VW p b V L size out r n aL cL ar cr an cn w) : TmF V L w 134 (tvM p r) := by
 have e := em_I64 H.h3 H.h4
 have z : I64 0 := I64_small 0
 have u : I64 1 := I64_small 1
 refine ⟨enters_fn Tryz.func134 (by kernel_rfl) (by kernel_rfl), fun k hk => ?_, fun W k hb hk => ?_⟩
 ·have hl := H.hl
  have hi := H.hI k hk
  unfold tvM; exact ite_I64 (e _) (ite_I64 (e _) (ite_I64 (e _) z))
 ·have hl := H.hl
  have hi := H.hI k hk
  exact vmore_any p b V L size out r n aL cL ar cr an cn W H (hV.below hb) k _ _ _ _ ⟨by omega, hi.2.1, hi.2.2.1, hi.2.2.2⟩
theorem tm_pc (p b V : Nat) (L : List InsZ) (size out : Int) (r n : List Int) (aL : Option Addr) (cL : Nat) (ar : Option Addr) (cr : Nat) (an : Option Addr) (cn : Nat) (w : World) (H : VF p L size out r n) (hV : VW p b V L size out r n aL cL ar cr an cn w) : TmF V L w 136 (tvN p r) := by
 have e := em_I64 H.h3 H.h4
 have z : I64 0 := I64_small 0
 have u : I64 1 := I64_small 1
 refine ⟨enters_fn Tryz.func136 (by kernel_rfl) (by kernel_rfl), fun k hk => ?_, fun W k hb hk => ?_⟩
 ·have hl := H.hl
  have hi := H.hI k hk
  unfold tvN; exact ite_I64 (I64_small _) (ite_I64 hi.2.1 (ite_I64 (e _) (ite_I64 (H.fr _) (I64_small _))))
 ·have hl := H.hl
  have hi := H.hI k hk
  exact vpc_any p b V L size out r n aL cL ar cr an cn W H (hV.below hb) k _ _ _ _ ⟨by omega, hi.2.1, hi.2.2.1, hi.2.2.2⟩
theorem tm_fp (p b V : Nat) (L : List InsZ) (size out : Int) (r n : List Int) (aL : Option Addr) (cL : Nat) (ar : Option Addr) (cr : Nat) (an : Option Addr) (cn : Nat) (w : World) (H : VF p L size out r n) (hV : VW p b V L size out r n aL cL ar cr an cn w) : TmF V L w 137 (fun _ => tvF p r) := by
 have e := em_I64 H.h3 H.h4
 have z : I64 0 := I64_small 0
 have u : I64 1 := I64_small 1
 refine ⟨enters_fn Tryz.func137 (by kernel_rfl) (by kernel_rfl), fun k hk => ?_, fun W k hb hk => ?_⟩
 ·have hl := H.hl
  have hi := H.hI k hk
  unfold tvF; exact ite_I64 (e _) (ite_I64 (H.fr _) (H.fr _))
 ·have hl := H.hl
  have hi := H.hI k hk
  exact vfp_any p b V L size out r n aL cL ar cr an cn W H (hV.below hb) k _ _ _ _ ⟨by omega, hi.2.1, hi.2.2.1, hi.2.2.2⟩
theorem tm_ap (p b V : Nat) (L : List InsZ) (size out : Int) (r n : List Int) (aL : Option Addr) (cL : Nat) (ar : Option Addr) (cr : Nat) (an : Option Addr) (cn : Nat) (w : World) (H : VF p L size out r n) (hV : VW p b V L size out r n aL cL ar cr an cn w) : TmF V L w 138 (fun _ => tvA p r) := by
 have e := em_I64 H.h3 H.h4
 have z : I64 0 := I64_small 0
 have u : I64 1 := I64_small 1
 refine ⟨enters_fn Tryz.func138 (by kernel_rfl) (by kernel_rfl), fun k hk => ?_, fun W k hb hk => ?_⟩
 ·have hl := H.hl
  have hi := H.hI k hk
  unfold tvA; exact ite_I64 (e _) (H.fr _)
 ·have hl := H.hl
  have hi := H.hI k hk
  exact vap_any p b V L size out r n aL cL ar cr an cn W H (hV.below hb) k _ _ _ _ ⟨by omega, hi.2.1, hi.2.2.1, hi.2.2.2⟩
theorem tm_rv (p b V : Nat) (L : List InsZ) (size out : Int) (r n : List Int) (aL : Option Addr) (cL : Nat) (ar : Option Addr) (cr : Nat) (an : Option Addr) (cn : Nat) (w : World) (H : VF p L size out r n) (hV : VW p b V L size out r n aL cL ar cr an cn w) : TmF V L w 139 (fun _ => tvR r) := by
 have e := em_I64 H.h3 H.h4
 have z : I64 0 := I64_small 0
 have u : I64 1 := I64_small 1
 refine ⟨enters_fn Tryz.func139 (by kernel_rfl) (by kernel_rfl), fun k hk => ?_, fun W k hb hk => ?_⟩
 ·have hl := H.hl
  have hi := H.hI k hk
  unfold tvR; exact ite_I64 (H.fr _) (H.fr _)
 ·have hl := H.hl
  have hi := H.hI k hk
  exact vrv_any p b V L size out r n aL cL ar cr an cn W H (hV.below hb) k _ _ _ _ ⟨by omega, hi.2.1, hi.2.2.1, hi.2.2.2⟩
theorem tm_halts (p b V : Nat) (L : List InsZ) (size out : Int) (r n : List Int) (aL : Option Addr) (cL : Nat) (ar : Option Addr) (cr : Nat) (an : Option Addr) (cn : Nat) (w : World) (H : VF p L size out r n) (hV : VW p b V L size out r n aL cL ar cr an cn w) : TmF V L w 140 (fun _ => tvH) := by
 have e := em_I64 H.h3 H.h4
 have z : I64 0 := I64_small 0
 have u : I64 1 := I64_small 1
 refine ⟨enters_fn Tryz.func140 (by kernel_rfl) (by kernel_rfl), fun k hk => ?_, fun W k hb hk => ?_⟩
 ·have hl := H.hl
  have hi := H.hI k hk
  unfold tvH; exact ite_I64 u z
 ·have hl := H.hl
  have hi := H.hI k hk
  exact vhalts_any p b V L size out r n aL cL ar cr an cn W H (hV.below hb) k _ _ _ _ ⟨by omega, hi.2.1, hi.2.2.1, hi.2.2.2⟩
theorem tm_once (p b V : Nat) (L : List InsZ) (size out : Int) (r n : List Int) (aL : Option Addr) (cL : Nat) (ar : Option Addr) (cr : Nat) (an : Option Addr) (cn : Nat) (w : World) (H : VF p L size out r n) (hV : VW p b V L size out r n aL cL ar cr an cn w) : TmF V L w 129 (fun _ _ => 1) := by
 have e := em_I64 H.h3 H.h4
 have z : I64 0 := I64_small 0
 have u : I64 1 := I64_small 1
 refine ⟨enters_fn Tryz.func129 (by kernel_rfl) (by kernel_rfl), fun k hk => ?_, fun W k hb hk => ?_⟩
 ·have hl := H.hl
  have hi := H.hI k hk
  exact u
 ·have hl := H.hl
  have hi := H.hI k hk
  exact vonce_any p b V L size out r n aL cL ar cr an cn W H (hV.below hb) k _ _ _ ⟨by omega, hi.2.1, hi.2.2.1, hi.2.2.2⟩ _
theorem tm_number (p b V : Nat) (L : List InsZ) (size out : Int) (r n : List Int) (aL : Option Addr) (cL : Nat) (ar : Option Addr) (cr : Nat) (an : Option Addr) (cn : Nat) (w : World) (H : VF p L size out r n) (hV : VW p b V L size out r n aL cL ar cr an cn w) : TmF V L w 135 (fun k _ => (k : Int)) := by
 have e := em_I64 H.h3 H.h4
 have z : I64 0 := I64_small 0
 have u : I64 1 := I64_small 1
 refine ⟨enters_fn Tryz.func135 (by kernel_rfl) (by kernel_rfl), fun k hk => ?_, fun W k hb hk => ?_⟩
 ·have hl := H.hl
  have hi := H.hI k hk
  exact I64_small (k : Int)
 ·have hl := H.hl
  have hi := H.hI k hk
  exact vnumber_any p b V L size out r n aL cL ar cr an cn W H (hV.below hb) k _ _ _ ⟨by omega, hi.2.1, hi.2.2.1, hi.2.2.2⟩ _
theorem tm_firstCell (p b V : Nat) (L : List InsZ) (size out : Int) (r n : List Int) (aL : Option Addr) (cL : Nat) (ar : Option Addr) (cr : Nat) (an : Option Addr) (cn : Nat) (w : World) (H : VF p L size out r n) (hV : VW p b V L size out r n aL cL ar cr an cn w) : TmF V L w 130 (fun _ => tvC p r 0) := by
 have e := em_I64 H.h3 H.h4
 have z : I64 0 := I64_small 0
 have u : I64 1 := I64_small 1
 refine ⟨enters_fn Tryz.func130 (by kernel_rfl) (by kernel_rfl), fun k hk => ?_, fun W k hb hk => ?_⟩
 ·have hl := H.hl
  have hi := H.hI k hk
  exact cel3_I64 e _ _ _ _ _ _ _
 ·have hl := H.hl
  have hi := H.hI k hk
  exact vfirstCell_any p b V L size out r n aL cL ar cr an cn W H (hV.below hb) k _ _ _ _ ⟨hi.2.1, hi.2.2.1, hi.2.2.2⟩
theorem tm_secondCell (p b V : Nat) (L : List InsZ) (size out : Int) (r n : List Int) (aL : Option Addr) (cL : Nat) (ar : Option Addr) (cr : Nat) (an : Option Addr) (cn : Nat) (w : World) (H : VF p L size out r n) (hV : VW p b V L size out r n aL cL ar cr an cn w) : TmF V L w 131 (fun _ => tvC p r 1) := by
 have e := em_I64 H.h3 H.h4
 have z : I64 0 := I64_small 0
 have u : I64 1 := I64_small 1
 refine ⟨enters_fn Tryz.func131 (by kernel_rfl) (by kernel_rfl), fun k hk => ?_, fun W k hb hk => ?_⟩
 ·have hl := H.hl
  have hi := H.hI k hk
  exact cel3_I64 e _ _ _ _ _ _ _
 ·have hl := H.hl
  have hi := H.hI k hk
  exact vsecondCell_any p b V L size out r n aL cL ar cr an cn W H (hV.below hb) k _ _ _ _ ⟨hi.2.1, hi.2.2.1, hi.2.2.2⟩
theorem tm_thirdCell (p b V : Nat) (L : List InsZ) (size out : Int) (r n : List Int) (aL : Option Addr) (cL : Nat) (ar : Option Addr) (cr : Nat) (an : Option Addr) (cn : Nat) (w : World) (H : VF p L size out r n) (hV : VW p b V L size out r n aL cL ar cr an cn w) : TmF V L w 132 (fun _ => tvC p r 2) := by
 have e := em_I64 H.h3 H.h4
 have z : I64 0 := I64_small 0
 have u : I64 1 := I64_small 1
 refine ⟨enters_fn Tryz.func132 (by kernel_rfl) (by kernel_rfl), fun k hk => ?_, fun W k hb hk => ?_⟩
 ·have hl := H.hl
  have hi := H.hI k hk
  exact cel3_I64 e _ _ _ _ _ _ _
 ·have hl := H.hl
  have hi := H.hI k hk
  exact vthirdCell_any p b V L size out r n aL cL ar cr an cn W H (hV.below hb) k _ _ _ _ ⟨hi.2.1, hi.2.2.1, hi.2.2.2⟩
def NewL (l : List Int) (w : World) (e : Ending) (w' : World) : Prop := ∃ G, e = .returned (.slice (some ⟨G, 0, none⟩) l.length l.length) /\ w.heap.size <= G /\ w'.heap[G]? = some (.cells (l.map (Value.int .i64)).toArray 3 (0, 0)) /\ Below w.heap.size w w'
theorem vsorted_any (p b V : Nat) (L : List InsZ) (size out : Int) (r n : List Int) (aL : Option Addr) (cL : Nat) (ar : Option Addr) (cr : Nat) (an : Option Addr) (cn : Nat) (w : World) (H : VF p L size out r n) (hV : VW p b V L size out r n aL cL ar cr an cn w) (ax ix bx jx : Int) (hx : I64 ax /\ I64 ix /\ I64 bx /\ I64 jx) :
  Calls Tryz.prog 116 #[.pointer (some ⟨V, 0, none⟩), .int .i64 ax, .int .i64 ix, .int .i64 bx, .int .i64 jx] w (NewL [ord1 p ax bx, ord2 p ax ix bx jx] w) := by
 have h3 := H.h3
 have h4 := H.h4
 have e := em_I64 h3 h4
 obtain ⟨ha, hi, hb, hj⟩ := hx
 obtain ⟨c0, _, _, _, _, _⟩ := hV.cells
 have hpc := hV.fld
 obtain ⟨R, hR⟩ := exE (NewL [ord1 p ax bx, ord2 p ax ix bx jx] w)
 rw [<- hR]
 have HC1 := hid (fun W h => sub_any p b bx ax W h3 h4 h hb.1 hb.2 ha.1 ha.2)
 have HC2 := hid (fun W h => sub_any p b jx ix W h3 h4 h hj.1 hj.2 hi.1 hi.2)
 have HC3 : Hid (∀ (W : World), VW p b V L size out r n aL cL ar cr an cn W -> Calls Tryz.prog 114 #[.pointer (some ⟨V, 0, none⟩), .int .i64 ((bx - ax) % (p : Int))] W fun e w' => e = .returned (.int .i64 (ord1 p ax bx)) /\ ∃ m, w' = W.drewN m) := fun W h => by
  rw [show ord1 p ax bx = ((bx - ax) % (p : Int) * ((bx - ax) % (p : Int) - 1)) % (p : Int) from by rw [ord1, em_mul1, <- em_mul2 _ ((bx - ax) % (p : Int) - 1), em_sub1, em_mul2]]
  exact vchoice_any p b V L size out r n aL cL ar cr an cn W H h _ (e _)
 have HC4 : Hid (∀ W : World, W.cell? ⟨b, 0, none⟩ = some (.int .i64 p) -> Calls Tryz.prog 52 #[.pointer (some ⟨b, 0, none⟩), .int .i64 ((bx - ax) % (p : Int)), .int .i64 1] W fun e w' => e = .returned (.int .i64 ((bx - ax - 1) % (p : Int))) /\ w' = W) := fun W h => by
  rw [show (bx - ax - 1) % (p : Int) = ((bx - ax) % (p : Int) - 1) % (p : Int) from (em_sub1 _ _ _).symm]
  exact sub_any p b _ _ W h3 h4 h (e _).1 (e _).2 (by decide) (by decide)
 have HC5 : Hid (∀ W : World, W.cell? ⟨b, 0, none⟩ = some (.int .i64 p) -> Calls Tryz.prog 49 #[.pointer (some ⟨b, 0, none⟩), .int .i64 ((bx - ax - 1) % (p : Int)), .int .i64 ((jx - ix) % (p : Int))] W fun e w' => e = .returned (.int .i64 (ord2 p ax ix bx jx)) /\ w' = W) := fun W h => by
  rw [ord2, <- em_mul1, <- em_mul2]
  exact mul_any p b _ _ W h3 h4 h (e _).1 (e _).2 (e _).1 (e _).2
 have QP := qpL hpc
 have HV := hid hV
 have HRR : Hid (∀ (W : World) (e : Ending) (w' : World), Below w.heap.size w W -> e = .returned (.slice (some ⟨W.heap.size, 0, none⟩) 2 2) -> w' = W.alloc (.cells #[.int .i64 (ord1 p ax bx), .int .i64 (ord2 p ax ix bx jx)] 3) -> R e w') := fun W e w' h1 h2 h4 => by
  rw [hR, h2, h4]
  exact ⟨W.heap.size, rfl, h1.size, heap_alloc_new W _, h1.alloc h1.size _⟩
 clear hR ha hi hb hj H hV e
 generalize ord1 p ax bx = t4 at *
 generalize ord2 p ax ix bx jx = t5 at *
 generalize (bx - ax - 1) % (p : Int) = t3 at *
 generalize (bx - ax) % (p : Int) = t1 at *
 generalize (jx - ix) % (p : Int) = t2 at *
 go_enter Tryz.func116, Tryz.ntmps116
 go_wp2_with fail
 go_quiet (first
  | (go_at_call 52; first | with_reducible exact Calls.quiet_of_same (HC1.out _ (QP.out _)) | with_reducible exact Calls.quiet_of_same (HC2.out _ (QP.out _))))
 obtain ⟨W1, hW1⟩ := exE (w.drewN nq)
 have hb1 : Below w.heap.size w W1 := by rw [hW1]; exact below_drewN (Below.refl _ _) _
 replace c0 : W1.cell? ⟨V, 0, none⟩ = some (.pointer (some ⟨b, 0, none⟩)) := by rw [hW1]; exact c0
 have hV1 := HV.out.below hb1
 have HK : Hid (∀ W, Below W1.heap.size W1 W -> W.cell? ⟨V, 0, none⟩ = some (.pointer (some ⟨b, 0, none⟩))) := fun W h => (hV1.below h).cells.1
 have HB1 := hid hb1
 have HD3 : Hid (∀ W, Below W1.heap.size W1 W -> Calls Tryz.prog 114 #[.pointer (some ⟨V, 0, none⟩), .int .i64 t1] W fun e w' => e = .returned (.int .i64 t4) /\ Below W1.heap.size W1 w') := fun W h => by
  refine (HC3.out W (hV1.below h)).mono ?_
  rintro e w' ⟨rfl, m, rfl⟩
  exact ⟨rfl, below_drewN h m⟩
 have HD4 : Hid (∀ W, Below W1.heap.size W1 W -> Calls Tryz.prog 52 #[.pointer (some ⟨b, 0, none⟩), .int .i64 t1, .int .i64 1] W fun e w' => e = .returned (.int .i64 t3) /\ Below W1.heap.size W1 w') := fun W h => by
  refine (HC4.out W (hV1.below h).fld).mono ?_
  rintro e w' ⟨rfl, rfl⟩
  exact ⟨rfl, h⟩
 have HD5 : Hid (∀ W, Below W1.heap.size W1 W -> Calls Tryz.prog 49 #[.pointer (some ⟨b, 0, none⟩), .int .i64 t3, .int .i64 t2] W fun e w' => e = .returned (.int .i64 t5) /\ Below W1.heap.size W1 w') := fun W h => by
  refine (HC5.out W (hV1.below h).fld).mono ?_
  rintro e w' ⟨rfl, rfl⟩
  exact ⟨rfl, h⟩
 have hdd : Below W1.heap.size W1 W1.drew := (Below.refl _ _).drew
 have hd0 : Below W1.heap.size W1 W1 := Below.refl _ _
 rw [<- hW1]
 clear hW1 hb1 hV1 hpc QP HC1 HC2 HC3 HC4 HC5 HV
 go_wp2_with fail
 go_region_held3 (fun W => W.cell? ⟨V, 0, none⟩ = some (.pointer (some ⟨b, 0, none⟩))) (first | exact HK.out _ (by assumption) | exact HK.out _ (Below.alloc (by assumption) (Below.size (by assumption)) _))
  (first
   | (go_at_call 114; refine (HD3.out _ (by assumption)).mono ?_; rintro e w' ⟨rfl, hb'⟩)
   | (go_at_call 52; refine (HD4.out _ (by assumption)).mono ?_; rintro e w' ⟨rfl, hb'⟩)
   | (go_at_call 49; refine (HD5.out _ (by assumption)).mono ?_; rintro e w' ⟨rfl, hb'⟩))
 have HBZ := hid (HB1.out.trans (hb'.mono HB1.out.size))
 go_wp2_with fail
 exact HRR.out _ _ _ HBZ.out rfl rfl
open Go
def evT (T : Nat -> Value) : Operand -> Value
 | .tmp t => T t
 | .const v => v
 | .global g => .pointer (some ⟨g, 0, none⟩)
 | .func f => .func (.func f) #[] #[]
theorem eval_evT (a : Act) : a.eval = evT (fun t => a.tmps.getD t undef) := by funext x; cases x <;> rfl
def lkT (ds : List Nat) (vs : List Value) (a0 : Array Value) (t : Nat) : Value := match ds.findIdx? (· == t) with
 | some k => vs.getD k undef
 | none => a0.getD t undef
def putAll : Array Value -> List Nat -> List Value -> Array Value
 | a, d :: ds, v :: vs => putAll (a.setIfInBounds d v) ds vs
 | a, _, _ => a
def notSel : Op -> Bool
 | .select _ _ => false
 | _ => true
def fitB (md : Region.Mode) (ops : List Oper) (ds : List Nat) : Bool := ops.all fun o => o.guard.isNone && notSel o.op && o.op.operands.toList.all fun x => match x with
 | .tmp t => match ds.findIdx? (· == t) with
  | none => true
  | some k => o.after.toList.any fun e => e.on == k && Region.binds md e
 | _ => true
theorem findIdx_ds {ds : List Nat} {t k : Nat} (hn : ds.Nodup) (h : ds[k]? = some t) : ds.findIdx? (· == t) = some k := by
 obtain ⟨hk, he⟩ := List.getElem?_eq_some_iff.1 h
 rw [List.findIdx?_eq_some_iff_getElem]
 refine ⟨hk, by simp [he], fun j hj => ?_⟩
 have : ds[j] ≠ ds[k] := List.pairwise_iff_getElem.1 hn j k (by omega) hk hj
 simp only [Bool.not_eq_true, beq_eq_false_iff_ne, ne_eq]
 rw [<- he]
 exact this
theorem findIdx_ds' {ds : List Nat} {t k : Nat} (h : ds.findIdx? (· == t) = some k) : ds[k]? = some t := by
 rw [List.findIdx?_eq_some_iff_getElem] at h
 obtain ⟨hk, he, _⟩ := h
 rw [List.getElem?_eq_getElem hk]
 simpa using he
theorem putAll_size : ∀ (a : Array Value) (ds : List Nat) (vs : List Value), (putAll a ds vs).size = a.size
 | a, [], _ => by simp [putAll]
 | a, _ :: _, [] => by simp [putAll]
 | a, d :: ds, v :: vs => by rw [putAll, putAll_size]; simp
theorem putAll_getD : ∀ (a : Array Value) (ds : List Nat) (vs : List Value), ds.Nodup -> (∀ d, d ∈ ds -> d < a.size) -> vs.length = ds.length -> ∀ t, (putAll a ds vs).getD t undef = lkT ds vs a t
 | a, [], vs, _, _, _, t => by simp [putAll, lkT]
 | a, d :: ds, [], _, _, h, t => by simp at h
 | a, d :: ds, v :: vs, hn, hl, h, t => by
  rw [List.nodup_cons] at hn
  rw [putAll, putAll_getD _ ds vs hn.2 (fun x hx => by simpa using hl x (List.mem_cons_of_mem _ hx)) (by simpa using h) t]
  unfold lkT
  rw [List.findIdx?_cons]
  by_cases e : d = t
  ·subst e
   simp only [beq_self_eq_true, if_true]
   have hno : ds.findIdx? (· == d) = none := by
    rw [List.findIdx?_eq_none_iff]
    intro x hx
    simp only [beq_eq_false_iff_ne, ne_eq]
    exact fun e => hn.1 (e ▸ hx)
   rw [hno]
   have hd := hl d (List.mem_cons_self ..)
   simp [hd]
  ·have e' : (d == t) = false := by simp [e]
   simp only [e', Bool.false_eq_true, if_false]
   cases hf : ds.findIdx? (· == t) with
   | none =>
    simp only [Option.map_none]
    simp only [Array.getD_eq_getD_getElem?]
    rw [Array.getElem?_setIfInBounds_ne e]
   | some k => simp
section
variable {P : Program} {ops : Array Oper} {Q : Exit -> Act -> World -> Prop} {md : Region.Mode}
def GivesV (P : Program) (Q : Exit -> Act -> World -> Prop) (S : World -> Prop) (T : Nat -> Nat -> Value) (V : Nat -> Value) (o : Oper) : Prop :=
 ∀ (g : Nat) (w : World) (a : Act) (K : Act -> World -> Prop), S w -> (∀ w', S w' -> RowKit.Below w.heap.size w w' -> K (a.put o.dst (V g)) w') -> o.upon P a K Q ((execOp (evT (T g)) o).run P w)
def GivesG (P : Program) (Q : Exit -> Act -> World -> Prop) (S : World -> Prop) (Sg : Nat -> World -> Prop) (T : Nat -> Nat -> Value) (V : Nat -> Value) (o : Oper) : Prop :=
 ∀ (g : Nat) (w : World) (a : Act) (K : Act -> World -> Prop), S w -> (∀ g' w', S w' -> Sg g' w' -> K (a.put o.dst (V g')) w') -> o.upon P a K Q ((execOp (evT (T g)) o).run P w)
theorem gives_val {S : World -> Prop} {T : Nat -> Nat -> Value} {V : Nat -> Value} {o : Oper} (h : ∀ g w, S w -> (execOp (evT (T g)) o).run P w = .ok (.value (V g)) w) : GivesV P Q S T V o := fun g w a K hS hK => by
 rw [h g w hS]
 exact hK w hS (RowKit.Below.refl _ _)
theorem gives_call {S : World -> Prop} {T : Nat -> Nat -> Value} {V : Nat -> Value} {o : Oper} {f : FuncId} {args : Array Value} (h : ∀ g w, S w -> (execOp (evT (T g)) o).run P w = .ok (.enter f args) w) (hc : ∀ g w, S w -> Calls P f args w fun e w' => e = .returned (V g) /\ S w' /\ RowKit.Below w.heap.size w w') : GivesV P Q S T V o := fun g w a K hS hK => by
 rw [h g w hS]
 refine (hc g w hS).mono ?_
 rintro e w' ⟨rfl, h1, h2⟩
 exact hK w' h1 h2
def InvT (ds : List Nat) (vs : Nat -> List Value) (S : World -> Prop) (Sg : Nat -> World -> Prop) (m : Nat) (a0 : Act) (L : Array Bool) (a : Act) (w : World) : Prop :=
 L.size = m + 2 /\ ∃ g, S w /\ (L.getD m false = true -> Sg g w) /\ a.defers = a0.defers /\ a.tmps.size = a0.tmps.size /\ (∀ t, t ∉ ds -> a.tmps.getD t undef = a0.tmps.getD t undef) /\ ∀ k t, L.getD k false = true -> ds[k]? = some t -> a.tmps.getD t undef = (vs g).getD k undef
theorem InvT.next {ds : List Nat} {vs : Nat -> List Value} {S : World -> Prop} {Sg : Nat -> World -> Prop} {m i d : Nat} {a0 a : Act} {L : Array Bool} {w' : World} {g g' : Nat} (hz : L.size = m + 2) (hnd : ds.Nodup) (hd : ds[i]? = some d) (hlt : d < a0.tmps.size)
  (h3 : a.defers = a0.defers) (h4 : a.tmps.size = a0.tmps.size) (h5 : ∀ t, t ∉ ds -> a.tmps.getD t undef = a0.tmps.getD t undef) (h6 : ∀ k t, L.getD k false = true -> ds[k]? = some t -> a.tmps.getD t undef = (vs g).getD k undef)
  (hS : S w') (hG : (L.setIfInBounds i true).getD m false = true -> Sg g' w') (hsame : ∀ k, k ≠ i -> L.getD k false = true -> (vs g).getD k undef = (vs g').getD k undef) : InvT ds vs S Sg m a0 (L.setIfInBounds i true) (a.put (some d) ((vs g').getD i undef)) w' := by
 have hmem : d ∈ ds := List.mem_of_getElem? hd
 refine ⟨by simpa using hz, g', hS, hG, h3, by simp [Act.put, h4], fun t ht => ?_, fun k t hk ht => ?_⟩
 ·have hne : d ≠ t := fun e => ht (e ▸ hmem)
  rw [<- h5 t ht]
  simp only [Act.put, Array.getD_eq_getD_getElem?]
  rw [Array.getElem?_setIfInBounds_ne hne]
 ·by_cases e : k = i
  ·subst e
   rw [hd] at ht
   injection ht with ht
   subst ht
   have hd2 : d < a.tmps.size := by omega
   simp [Act.put, hd2]
  ·have hne : d ≠ t := fun e2 => by
    subst e2
    have h1 := findIdx_ds hnd hd
    rw [findIdx_ds hnd ht] at h1
    injection h1 with h1
    exact e h1
   have hk' : L.getD k false = true := by
    rw [getD_set_other (fun h => e h.symm)] at hk; exact hk
   rw [<- hsame k e hk', <- h6 k t hk' ht]
   simp only [Act.put, Array.getD_eq_getD_getElem?]
   rw [Array.getElem?_setIfInBounds_ne hne]
theorem replicate_off (n k : Nat) : (Array.replicate n false).getD k false = false := by
 simp only [Array.getD_eq_getD_getElem?, Array.getElem?_replicate]
 split <;> rfl
theorem wpAny_vals (ds : List Nat) (vs : Nat -> List Value) (S : World -> Prop) (Sg : Nat -> World -> Prop) (m : Nat) (a0 : Act) (w0 : World)
  (hds : ops.toList.map (·.dst) = ds.map some) (hnd : ds.Nodup) (hlt : ∀ d, d ∈ ds -> d < a0.tmps.size) (hfit : fitB md ops.toList ds = true) (hlex : lexB md ops = true) (hsz : ops.size = m + 2) (hlast : ∃ o e, ops[m + 1]? = some o /\ e ∈ o.after /\ e.on = m /\ Region.binds md e = true)
  (hvl : ∀ g, (vs g).length = ds.length) (hvs : ∀ g g' k, k < m -> (vs g).getD k undef = (vs g').getD k undef) (hSg : ∀ g w w', Sg g w -> RowKit.Below w.heap.size w w' -> Sg g w')
  (hop : ∀ i o, ops[i]? = some o -> i ≠ m -> GivesV P Q S (fun g => lkT ds (vs g) a0.tmps) (fun g => (vs g).getD i undef) o)
  (hopm : ∀ o, ops[m]? = some o -> GivesG P Q S Sg (fun g => lkT ds (vs g) a0.tmps) (fun g => (vs g).getD m undef) o)
  (hdone : ∀ g w, S w -> Sg g w -> Q .normal ⟨putAll a0.tmps ds (vs g), a0.defers⟩ w) (hS : S w0) :
  wpAny P md ops Q ops.size (Array.replicate ops.size false) a0 w0 := by
 have hdi : ∀ (i : Nat) (o : Oper), ops[i]? = some o -> ∃ d, ds[i]? = some d /\ o.dst = some d /\ d < a0.tmps.size := fun i o ho => by
  have h1 : (ops.toList.map (fun x : Oper => x.dst))[i]? = some o.dst := by rw [List.getElem?_map]; simp [ho]
  rw [hds, List.getElem?_map] at h1
  cases hx : ds[i]? with
  | none => rw [hx] at h1; cases h1
  | some d => rw [hx] at h1; simp at h1; exact ⟨d, rfl, h1.symm, hlt d (List.mem_of_getElem? hx)⟩
 refine wpAny_invC (InvT ds vs S Sg m a0) ?step ?done hlex _ _ ⟨by simp [hsz], 0, hS, fun h => ?_, rfl, rfl, fun _ _ => rfl, fun k t h => ?_⟩
 case step =>
  rintro L a w hcl ⟨hz, g, h1, h2, h3, h4, h5, h6⟩ i hi
  obtain ⟨hun, o, ho, hed⟩ := mem_ready.1 hi
  obtain ⟨d, hd1, hd2, hd3⟩ := hdi i o ho
  have hmem : o ∈ ops.toList := Array.mem_toList_iff.2 (Array.mem_of_getElem? ho)
  have hf := List.all_eq_true.1 hfit o hmem
  simp only [Bool.and_eq_true] at hf
  have hguard : o.guard = none := by simpa using hf.1.1
  have hsel : ∀ cs b, o.op ≠ .select cs b := fun cs b e => by
   have := hf.1.2
   rw [e] at this
   simp [notSel] at this
  have hcong : execOp a.eval o = execOp (evT (lkT ds (vs g) a0.tmps)) o := by
   refine execOp_congr o hsel fun x hx => ?_
   rw [eval_evT]
   cases x with
   | tmp t =>
    show a.tmps.getD t undef = lkT ds (vs g) a0.tmps t
    have hx2 := List.all_eq_true.1 hf.2 _ (Array.mem_toList_iff.2 hx)
    simp only at hx2
    unfold lkT
    cases hfi : ds.findIdx? (· == t) with
    | none =>
     refine h5 t (fun hm => ?_)
     rw [List.findIdx?_eq_none_iff] at hfi
     have := hfi t hm
     simp at this
    | some k =>
     rw [hfi] at hx2
     simp only at hx2
     obtain ⟨e, he1, he2⟩ := List.any_eq_true.1 hx2
     simp only [Bool.and_eq_true, beq_iff_eq] at he2
     have hl := hed e (Array.mem_toList_iff.1 he1) he2.2
     rw [he2.1] at hl
     exact h6 k t hl (findIdx_ds' hfi)
   | const v => rfl
   | global g => rfl
   | func f => rfl
  refine wpOp_step ho (fun K' hK' => ?_)
  rw [if_pos (by unfold Region.wanted; rw [hguard])]
  unfold Oper.wp
  rw [hcong]
  have hLi : L.getD i false = false := unlisted_of_ready hi
  by_cases him : i = m
  ·subst him
   refine hopm o ho g w a K' h1 (fun g' w' hS' hG' => hK' _ _ ?_)
   rw [hd2]
   refine InvT.next (g := g) (g' := g') hz hnd hd1 hd3 h3 h4 h5 h6 hS' (fun _ => hG') (fun k hki hk => ?_)
   have hkm : k < i ∨ i < k := by omega
   rcases hkm with hkm | hkm
   ·exact hvs g g' k hkm
   ·exfalso
    have hks : k < L.size := by
     rcases Nat.lt_or_ge k L.size with q | q
     ·exact q
     ·simp [Array.getElem?_eq_none q] at hk
    obtain ⟨o', e, ho', he, heon, heb⟩ := hlast
    have hk2 : k = i + 1 := by omega
    subst hk2
    have := hcl (i + 1) o' ho' hk e he heb
    rw [heon, hLi] at this
    cases this
  ·refine hop i o ho him g w a K' h1 (fun w' hS' hB' => hK' _ _ ?_)
   rw [hd2]
   exact InvT.next (g := g) (g' := g) hz hnd hd1 hd3 h3 h4 h5 h6 hS' (fun h => hSg g w w' (h2 (by rw [getD_set_other him] at h; exact h)) hB') (fun _ _ _ => rfl)
 case done =>
  rintro L a w hall ⟨_, g, h1, h2, h3, h4, h5, h6⟩
  have ha : a = ⟨putAll a0.tmps ds (vs g), a0.defers⟩ := by
   obtain ⟨tm, df⟩ := a
   simp only at h3 h4 h5 h6
   subst h3
   congr 1
   apply Array.ext
   ·rw [putAll_size, h4]
   ·intro t ht1 ht2
    have hp := putAll_getD a0.tmps ds (vs g) hnd hlt (hvl g) t
    have e1 : tm.getD t undef = tm[t] := by simp [ht1]
    have e2 : (putAll a0.tmps ds (vs g)).getD t undef = (putAll a0.tmps ds (vs g))[t] := by simp [ht2]
    rw [<- e1, <- e2, hp]
    unfold lkT
    cases hfi : ds.findIdx? (· == t) with
    | none =>
     refine h5 t (fun hm => ?_)
     rw [List.findIdx?_eq_none_iff] at hfi
     have := hfi t hm
     simp at this
    | some k =>
     have hk := findIdx_ds' hfi
     have hkl : k < ops.size := by
      have h7 := (List.getElem?_eq_some_iff.1 hk).1
      have h8 := congrArg List.length hds
      simp at h8
      omega
     exact h6 k t (hall k hkl) hk
  rw [ha]
  exact hdone g w h1 (h2 (hall m (by omega)))
 ·rw [replicate_off] at h; cases h
 ·rw [replicate_off] at h; cases h
def AllI (p : Nat -> Oper -> Prop) : Nat -> List Oper -> Prop
 | _, [] => True
 | i, o :: r => p i o /\ AllI p (i + 1) r
theorem AllI.cons {p : Nat -> Oper -> Prop} {i : Nat} {o : Oper} {r : List Oper} (h : p i o) (hr : AllI p (i + 1) r) : AllI p i (o :: r) := ⟨h, hr⟩
theorem AllI.nil {p : Nat -> Oper -> Prop} {i : Nat} : AllI p i [] := trivial
theorem AllI.at {p : Nat -> Oper -> Prop} : ∀ {l : List Oper} {i : Nat}, AllI p i l -> ∀ k o, l[k]? = some o -> p (i + k) o
 | [], _, _, k, o, h => by simp at h
 | x :: r, i, ha, 0, o, h => by
  simp at h; subst h; exact ha.1
 | x :: r, i, ha, k + 1, o, h => by
  have := AllI.at ha.2 k o (by simpa using h)
  rw [show i + (k + 1) = i + 1 + k by omega]
  exact this
theorem wp_region_vals (ds : List Nat) (vs : Nat -> List Value) (S : World -> Prop) (Sg : Nat -> World -> Prop) (m : Nat) (a0 : Act) (w0 : World) (T : Nat -> Nat -> Value) (hT : ∀ g, T g = lkT ds (vs g) a0.tmps)
  (hds : ops.toList.map (·.dst) = ds.map some) (hnd : ds.Nodup) (hlt : (ds.all fun d => decide (d < a0.tmps.size)) = true) (hfit : fitB md ops.toList ds = true) (hlex : lexB md ops = true) (hsz : ops.size = m + 2) (hlast : ∃ o e, ops[m + 1]? = some o /\ e ∈ o.after /\ e.on = m /\ Region.binds md e = true)
  (hvl : ∀ g, (vs g).length = ds.length) (hvs : ∀ g g' k, k < m -> (vs g).getD k undef = (vs g').getD k undef) (hSg : ∀ g w w', Sg g w -> RowKit.Below w.heap.size w w' -> Sg g w')
  (hop : AllI (fun i o => if i = m then GivesG P Q S Sg T (fun g => T g (o.dst.getD 0)) o else GivesV P Q S T (fun g => T g (o.dst.getD 0)) o) 0 ops.toList)
  (hdone : ∀ g w, S w -> Sg g w -> Q .normal ⟨putAll a0.tmps ds (vs g), a0.defers⟩ w) (hS : S w0) :
  wpAny P md ops Q ops.size (Array.replicate ops.size false) a0 w0 := by
 have hTd : ∀ (i : Nat) (o : Oper), ops[i]? = some o -> ∀ g, T g (o.dst.getD 0) = (vs g).getD i undef := fun i o ho g => by
  have h1 : (ops.toList.map (fun x : Oper => x.dst))[i]? = some o.dst := by rw [List.getElem?_map]; simp [ho]
  rw [hds, List.getElem?_map] at h1
  cases hx : ds[i]? with
  | none => rw [hx] at h1; cases h1
  | some d =>
   rw [hx] at h1
   simp at h1
   rw [<- h1, hT]
   unfold lkT
   rw [Option.getD_some, findIdx_ds hnd hx]
 have hall := fun (i : Nat) (o : Oper) (ho : ops[i]? = some o) => AllI.at hop i o (by simpa using ho)
 refine wpAny_vals ds vs S Sg m a0 w0 hds hnd (fun d hd => of_decide_eq_true (List.all_eq_true.1 hlt d hd)) hfit hlex hsz hlast hvl hvs hSg (fun i o ho hi => ?_) (fun o ho => ?_) hdone hS
 ·have h := hall i o ho
  rw [Nat.zero_add, if_neg hi] at h
  have e1 : (fun g => T g (o.dst.getD 0)) = fun g => (vs g).getD i undef := funext (hTd i o ho)
  have e2 : T = fun g => lkT ds (vs g) a0.tmps := funext hT
  rw [e1, e2] at h
  exact h
 ·have h := hall m o ho
  rw [Nat.zero_add, if_pos rfl] at h
  have e1 : (fun g => T g (o.dst.getD 0)) = fun g => (vs g).getD m undef := funext (hTd m o ho)
  have e2 : T = fun g => lkT ds (vs g) a0.tmps := funext hT
  rw [e1, e2] at h
  exact h
end
end Go.Proofs.YtjlngcmkgkiplaaGreatDoor
