
import Derived.Test.YtjlngcmkgkiplaaGreatDoorWcBD
set_option maxRecDepth 1000000
set_option maxHeartbeats 8000000
namespace Go.Proofs.YtjlngcmkgkiplaaGreatDoor
open Go.RowKit Go.Maps
theorem wedge_18 (p V : Nat) (L : List InsZ) (size out : Int) (r n : List Int) (aL : Option Addr) (cL : Nat) (ar : Option Addr) (cr : Nat) (an : Option Addr) (cn : Nat) (w : World) (H : VF p L size out r n) (hV : WW p V L size out r n aL cL ar cr an cn w) :
  Calls Tryz.prog 103 #[.pointer (some ⟨V, 0, none⟩), .int .i64 18] w fun e w' => e = .returned (.int .i64 ((zat r 20 - 1) % (p : Int))) /\ Below w.heap.size w w' := by
 have h3 := H.h3
 have h4 := H.h4
 have e := em_I64 h3 h4
 have es := fun s f => (show I64 (smt p L s f) by have := smt_bd h3 L s f; unfold I64; omega)
 obtain ⟨br, orr, har, hrw⟩ := rowB_at hV.row H.hr
 subst har
 obtain ⟨bn, onn, han, hnw⟩ := rowB_at hV.nxt H.hn
 subst han
 have hh1 := H.h1
 have hl := H.hl
 have HX : Hid (∀ W, Below w.heap.size w W -> (W.cell? ⟨V, 0, none⟩ = some (.int .i64 p) /\ W.cell? ⟨V, 1, none⟩ = some (.int .i64 size) /\ W.cell? ⟨V, 2, none⟩ = some (.slice aL L.length cL) /\ W.cell? ⟨V, 3, none⟩ = some (.int .i64 out) /\ W.cell? ⟨V, 4, none⟩ = some (.slice (some ⟨br, orr, none⟩) r.length cr) /\ W.cell? ⟨V, 5, none⟩ = some (.slice (some ⟨bn, onn, none⟩) n.length cn) /\ W.cell? ⟨br, orr + 20, none⟩ = some (.int .i64 (zat r 20)))) := fun W h => by
  have hc := (hV.below h).cells
  exact ⟨hc.1, hc.2.1, hc.2.2.1, hc.2.2.2.1, hc.2.2.2.2.1, hc.2.2.2.2.2, (h.cell (p := ⟨br, orr + 20, none⟩) (World.block_lt_of_cell? _ _ (hrw 20 (by omega)))).trans (hrw 20 (by omega))⟩
 have l20 := llL H 20
 have HC0 := hid (fun W h => wsub_any p V (zat r 20) (1 : Int) W h3 h4 h (H.fr 20) (show I64 1 from I64_small 1))
 have HB0 : Hid (Below w.heap.size w w) := Below.refl _ _
 obtain ⟨c0, c1, c2, c3, c4, c5, r20⟩ := HX.out w HB0.out
 clear H hV hrw hnw e es hh1
 generalize (((zat r 20) - (1 : Int)) % (p : Int)) = t1 at *
 generalize zat r 20 = x20 at *
 generalize r.length = lr at *
 generalize n.length = ln at *
 generalize L.length = nL at *
 go_enter Tryz.func103, Tryz.ntmps103
 go_wp2_with fail
 refine (HC0.out _ c0).mono ?_
 rintro e w' ⟨rfl, hw'⟩
 have hw'' := hw'.symm
 subst hw''
 clear hw'
 go_wp2_with fail
 go_ret
 exact ⟨rfl, HB0.out⟩
theorem wedge_19 (p V : Nat) (L : List InsZ) (size out : Int) (r n : List Int) (aL : Option Addr) (cL : Nat) (ar : Option Addr) (cr : Nat) (an : Option Addr) (cn : Nat) (w : World) (H : VF p L size out r n) (hV : WW p V L size out r n aL cL ar cr an cn w) :
  Calls Tryz.prog 103 #[.pointer (some ⟨V, 0, none⟩), .int .i64 19] w fun e w' => e = .returned (.int .i64 ((zat r 0 - 1) % (p : Int))) /\ Below w.heap.size w w' := by
 have h3 := H.h3
 have h4 := H.h4
 have e := em_I64 h3 h4
 have es := fun s f => (show I64 (smt p L s f) by have := smt_bd h3 L s f; unfold I64; omega)
 obtain ⟨br, orr, har, hrw⟩ := rowB_at hV.row H.hr
 subst har
 obtain ⟨bn, onn, han, hnw⟩ := rowB_at hV.nxt H.hn
 subst han
 have hh1 := H.h1
 have hl := H.hl
 have HX : Hid (∀ W, Below w.heap.size w W -> (W.cell? ⟨V, 0, none⟩ = some (.int .i64 p) /\ W.cell? ⟨V, 1, none⟩ = some (.int .i64 size) /\ W.cell? ⟨V, 2, none⟩ = some (.slice aL L.length cL) /\ W.cell? ⟨V, 3, none⟩ = some (.int .i64 out) /\ W.cell? ⟨V, 4, none⟩ = some (.slice (some ⟨br, orr, none⟩) r.length cr) /\ W.cell? ⟨V, 5, none⟩ = some (.slice (some ⟨bn, onn, none⟩) n.length cn) /\ W.cell? ⟨br, orr, none⟩ = some (.int .i64 (zat r 0)))) := fun W h => by
  have hc := (hV.below h).cells
  exact ⟨hc.1, hc.2.1, hc.2.2.1, hc.2.2.2.1, hc.2.2.2.2.1, hc.2.2.2.2.2, (h.cell (p := ⟨br, orr, none⟩) (World.block_lt_of_cell? _ _ (hrw 0 (by omega)))).trans (hrw 0 (by omega))⟩
 have l0 := llL H 0
 have l0' := llN H 0
 have HC0 := hid (fun W h => wsub_any p V (zat r 0) (1 : Int) W h3 h4 h (H.fr 0) (show I64 1 from I64_small 1))
 have HB0 : Hid (Below w.heap.size w w) := Below.refl _ _
 obtain ⟨c0, c1, c2, c3, c4, c5, r0⟩ := HX.out w HB0.out
 clear H hV hrw hnw e es hh1
 generalize (((zat r 0) - (1 : Int)) % (p : Int)) = t1 at *
 generalize zat r 0 = x0 at *
 generalize r.length = lr at *
 generalize n.length = ln at *
 generalize L.length = nL at *
 go_enter Tryz.func103, Tryz.ntmps103
 go_wp2_with fail
 refine (HC0.out _ c0).mono ?_
 rintro e w' ⟨rfl, hw'⟩
 have hw'' := hw'.symm
 subst hw''
 clear hw'
 go_wp2_with fail
 go_ret
 exact ⟨rfl, HB0.out⟩
theorem wedge_20 (p V : Nat) (L : List InsZ) (size out : Int) (r n : List Int) (aL : Option Addr) (cL : Nat) (ar : Option Addr) (cr : Nat) (an : Option Addr) (cn : Nat) (w : World) (H : VF p L size out r n) (hV : WW p V L size out r n aL cL ar cr an cn w) :
  Calls Tryz.prog 103 #[.pointer (some ⟨V, 0, none⟩), .int .i64 20] w fun e w' => e = .returned (.int .i64 ((zat r 1 - 1 - size) % (p : Int))) /\ Below w.heap.size w w' := by
 have h3 := H.h3
 have h4 := H.h4
 have e := em_I64 h3 h4
 have es := fun s f => (show I64 (smt p L s f) by have := smt_bd h3 L s f; unfold I64; omega)
 obtain ⟨br, orr, har, hrw⟩ := rowB_at hV.row H.hr
 subst har
 obtain ⟨bn, onn, han, hnw⟩ := rowB_at hV.nxt H.hn
 subst han
 have hh1 := H.h1
 have hl := H.hl
 have HX : Hid (∀ W, Below w.heap.size w W -> (W.cell? ⟨V, 0, none⟩ = some (.int .i64 p) /\ W.cell? ⟨V, 1, none⟩ = some (.int .i64 size) /\ W.cell? ⟨V, 2, none⟩ = some (.slice aL L.length cL) /\ W.cell? ⟨V, 3, none⟩ = some (.int .i64 out) /\ W.cell? ⟨V, 4, none⟩ = some (.slice (some ⟨br, orr, none⟩) r.length cr) /\ W.cell? ⟨V, 5, none⟩ = some (.slice (some ⟨bn, onn, none⟩) n.length cn) /\ W.cell? ⟨br, orr + 1, none⟩ = some (.int .i64 (zat r 1)))) := fun W h => by
  have hc := (hV.below h).cells
  exact ⟨hc.1, hc.2.1, hc.2.2.1, hc.2.2.2.1, hc.2.2.2.2.1, hc.2.2.2.2.2, (h.cell (p := ⟨br, orr + 1, none⟩) (World.block_lt_of_cell? _ _ (hrw 1 (by omega)))).trans (hrw 1 (by omega))⟩
 have l1 := llL H 1
 have l1' := llN H 1
 have HC0 := hid (fun W h => wsub_any p V (zat r 1) (1 : Int) W h3 h4 h (H.fr 1) (show I64 1 from I64_small 1))
 have HC1 := hid (fun W h => wsub_any p V ((((zat r 1) - (1 : Int)) % (p : Int))) size W h3 h4 h (e _) H.hsz)
 have HE : Hid ((zat r 1 - 1 - size) % (p : Int) = (((((zat r 1) - (1 : Int)) % (p : Int)) - size) % (p : Int))) := by
  unfold Hid
  rw [em_sub1]
 obtain ⟨R, hR⟩ := exE ((zat r 1 - 1 - size) % (p : Int))
 rw [<- hR] at HE ⊢
 clear hR
 have HB0 : Hid (Below w.heap.size w w) := Below.refl _ _
 obtain ⟨c0, c1, c2, c3, c4, c5, r1⟩ := HX.out w HB0.out
 clear H hV hrw hnw e es hh1
 generalize (((((zat r 1) - (1 : Int)) % (p : Int)) - size) % (p : Int)) = t2 at *
 generalize (((zat r 1) - (1 : Int)) % (p : Int)) = t1 at *
 generalize zat r 1 = x1 at *
 generalize r.length = lr at *
 generalize n.length = ln at *
 generalize L.length = nL at *
 go_enter Tryz.func103, Tryz.ntmps103
 go_wp2_with fail
 refine (HC0.out _ c0).mono ?_
 rintro e w' ⟨rfl, hw'⟩
 have hw'' := hw'.symm
 subst hw''
 clear hw'
 go_wp2_with fail
 refine (HC1.out _ c0).mono ?_
 rintro e w' ⟨rfl, hw'⟩
 have hw'' := hw'.symm
 subst hw''
 clear hw'
 go_wp2_with fail
 go_ret
 exact ⟨by have h := HE.out; subst h; rfl, HB0.out⟩
theorem wedge_21 (p V : Nat) (L : List InsZ) (size out : Int) (r n : List Int) (aL : Option Addr) (cL : Nat) (ar : Option Addr) (cr : Nat) (an : Option Addr) (cn : Nat) (w : World) (H : VF p L size out r n) (hV : WW p V L size out r n aL cL ar cr an cn w) :
  Calls Tryz.prog 103 #[.pointer (some ⟨V, 0, none⟩), .int .i64 21] w fun e w' => e = .returned (.int .i64 (zat r 2 % (p : Int))) /\ Below w.heap.size w w' := by
 have h3 := H.h3
 have h4 := H.h4
 have e := em_I64 h3 h4
 have es := fun s f => (show I64 (smt p L s f) by have := smt_bd h3 L s f; unfold I64; omega)
 obtain ⟨br, orr, har, hrw⟩ := rowB_at hV.row H.hr
 subst har
 obtain ⟨bn, onn, han, hnw⟩ := rowB_at hV.nxt H.hn
 subst han
 have hh1 := H.h1
 have hl := H.hl
 have HX : Hid (∀ W, Below w.heap.size w W -> (W.cell? ⟨V, 0, none⟩ = some (.int .i64 p) /\ W.cell? ⟨V, 1, none⟩ = some (.int .i64 size) /\ W.cell? ⟨V, 2, none⟩ = some (.slice aL L.length cL) /\ W.cell? ⟨V, 3, none⟩ = some (.int .i64 out) /\ W.cell? ⟨V, 4, none⟩ = some (.slice (some ⟨br, orr, none⟩) r.length cr) /\ W.cell? ⟨V, 5, none⟩ = some (.slice (some ⟨bn, onn, none⟩) n.length cn) /\ W.cell? ⟨br, orr + 2, none⟩ = some (.int .i64 (zat r 2)))) := fun W h => by
  have hc := (hV.below h).cells
  exact ⟨hc.1, hc.2.1, hc.2.2.1, hc.2.2.2.1, hc.2.2.2.2.1, hc.2.2.2.2.2, (h.cell (p := ⟨br, orr + 2, none⟩) (World.block_lt_of_cell? _ _ (hrw 2 (by omega)))).trans (hrw 2 (by omega))⟩
 have l2 := llL H 2
 have HC0 : Hid (∀ W : World, Calls Tryz.prog 56 #[.int .i64 p, .int .i64 (zat r 2)] W fun e w' => e = .returned (.int .i64 ((zat r 2) % (p : Int))) /\ w' = W) := fun W => rof_any p _ W h3 h4 (H.fr 2).1 (H.fr 2).2
 have HB0 : Hid (Below w.heap.size w w) := Below.refl _ _
 obtain ⟨c0, c1, c2, c3, c4, c5, r2⟩ := HX.out w HB0.out
 clear H hV hrw hnw e es hh1
 generalize ((zat r 2) % (p : Int)) = t1 at *
 generalize zat r 2 = x2 at *
 generalize r.length = lr at *
 generalize n.length = ln at *
 generalize L.length = nL at *
 go_enter Tryz.func103, Tryz.ntmps103
 go_wp2_with fail
 have QP := qpL c0
 go_quiet (first
  | (go_at_call 56; with_reducible exact Calls.quiet_of_same (HC0.out _)))
 go_wp2_with fail
 go_ret
 exact ⟨rfl, below_drewN HB0.out _⟩
theorem wedge_22 (p V : Nat) (L : List InsZ) (size out : Int) (r n : List Int) (aL : Option Addr) (cL : Nat) (ar : Option Addr) (cr : Nat) (an : Option Addr) (cn : Nat) (w : World) (H : VF p L size out r n) (hV : WW p V L size out r n aL cL ar cr an cn w) :
  Calls Tryz.prog 103 #[.pointer (some ⟨V, 0, none⟩), .int .i64 22] w fun e w' => e = .returned (.int .i64 (zat r 12 % (p : Int))) /\ Below w.heap.size w w' := by
 have h3 := H.h3
 have h4 := H.h4
 have e := em_I64 h3 h4
 have es := fun s f => (show I64 (smt p L s f) by have := smt_bd h3 L s f; unfold I64; omega)
 obtain ⟨br, orr, har, hrw⟩ := rowB_at hV.row H.hr
 subst har
 obtain ⟨bn, onn, han, hnw⟩ := rowB_at hV.nxt H.hn
 subst han
 have hh1 := H.h1
 have hl := H.hl
 have HX : Hid (∀ W, Below w.heap.size w W -> (W.cell? ⟨V, 0, none⟩ = some (.int .i64 p) /\ W.cell? ⟨V, 1, none⟩ = some (.int .i64 size) /\ W.cell? ⟨V, 2, none⟩ = some (.slice aL L.length cL) /\ W.cell? ⟨V, 3, none⟩ = some (.int .i64 out) /\ W.cell? ⟨V, 4, none⟩ = some (.slice (some ⟨br, orr, none⟩) r.length cr) /\ W.cell? ⟨V, 5, none⟩ = some (.slice (some ⟨bn, onn, none⟩) n.length cn) /\ W.cell? ⟨br, orr + 12, none⟩ = some (.int .i64 (zat r 12)))) := fun W h => by
  have hc := (hV.below h).cells
  exact ⟨hc.1, hc.2.1, hc.2.2.1, hc.2.2.2.1, hc.2.2.2.2.1, hc.2.2.2.2.2, (h.cell (p := ⟨br, orr + 12, none⟩) (World.block_lt_of_cell? _ _ (hrw 12 (by omega)))).trans (hrw 12 (by omega))⟩
 have l12 := llL H 12
 have HC0 : Hid (∀ W : World, Calls Tryz.prog 56 #[.int .i64 p, .int .i64 (zat r 12)] W fun e w' => e = .returned (.int .i64 ((zat r 12) % (p : Int))) /\ w' = W) := fun W => rof_any p _ W h3 h4 (H.fr 12).1 (H.fr 12).2
 have HB0 : Hid (Below w.heap.size w w) := Below.refl _ _
 obtain ⟨c0, c1, c2, c3, c4, c5, r12⟩ := HX.out w HB0.out
 clear H hV hrw hnw e es hh1
 generalize ((zat r 12) % (p : Int)) = t1 at *
 generalize zat r 12 = x12 at *
 generalize r.length = lr at *
 generalize n.length = ln at *
 generalize L.length = nL at *
 go_enter Tryz.func103, Tryz.ntmps103
 go_wp2_with fail
 have QP := qpL c0
 go_quiet (first
  | (go_at_call 56; with_reducible exact Calls.quiet_of_same (HC0.out _)))
 go_wp2_with fail
 go_ret
 exact ⟨rfl, below_drewN HB0.out _⟩
theorem wedge_23 (p V : Nat) (L : List InsZ) (size out : Int) (r n : List Int) (aL : Option Addr) (cL : Nat) (ar : Option Addr) (cr : Nat) (an : Option Addr) (cn : Nat) (w : World) (H : VF p L size out r n) (hV : WW p V L size out r n aL cL ar cr an cn w) :
  Calls Tryz.prog 103 #[.pointer (some ⟨V, 0, none⟩), .int .i64 23] w fun e w' => e = .returned (.int .i64 (zat r 16 % (p : Int))) /\ Below w.heap.size w w' := by
 have h3 := H.h3
 have h4 := H.h4
 have e := em_I64 h3 h4
 have es := fun s f => (show I64 (smt p L s f) by have := smt_bd h3 L s f; unfold I64; omega)
 obtain ⟨br, orr, har, hrw⟩ := rowB_at hV.row H.hr
 subst har
 obtain ⟨bn, onn, han, hnw⟩ := rowB_at hV.nxt H.hn
 subst han
 have hh1 := H.h1
 have hl := H.hl
 have HX : Hid (∀ W, Below w.heap.size w W -> (W.cell? ⟨V, 0, none⟩ = some (.int .i64 p) /\ W.cell? ⟨V, 1, none⟩ = some (.int .i64 size) /\ W.cell? ⟨V, 2, none⟩ = some (.slice aL L.length cL) /\ W.cell? ⟨V, 3, none⟩ = some (.int .i64 out) /\ W.cell? ⟨V, 4, none⟩ = some (.slice (some ⟨br, orr, none⟩) r.length cr) /\ W.cell? ⟨V, 5, none⟩ = some (.slice (some ⟨bn, onn, none⟩) n.length cn) /\ W.cell? ⟨br, orr + 16, none⟩ = some (.int .i64 (zat r 16)))) := fun W h => by
  have hc := (hV.below h).cells
  exact ⟨hc.1, hc.2.1, hc.2.2.1, hc.2.2.2.1, hc.2.2.2.2.1, hc.2.2.2.2.2, (h.cell (p := ⟨br, orr + 16, none⟩) (World.block_lt_of_cell? _ _ (hrw 16 (by omega)))).trans (hrw 16 (by omega))⟩
 have l16 := llL H 16
 have HC0 : Hid (∀ W : World, Calls Tryz.prog 56 #[.int .i64 p, .int .i64 (zat r 16)] W fun e w' => e = .returned (.int .i64 ((zat r 16) % (p : Int))) /\ w' = W) := fun W => rof_any p _ W h3 h4 (H.fr 16).1 (H.fr 16).2
 have HB0 : Hid (Below w.heap.size w w) := Below.refl _ _
 obtain ⟨c0, c1, c2, c3, c4, c5, r16⟩ := HX.out w HB0.out
 clear H hV hrw hnw e es hh1
 generalize ((zat r 16) % (p : Int)) = t1 at *
 generalize zat r 16 = x16 at *
 generalize r.length = lr at *
 generalize n.length = ln at *
 generalize L.length = nL at *
 go_enter Tryz.func103, Tryz.ntmps103
 go_wp2_with fail
 have QP := qpL c0
 go_quiet (first
  | (go_at_call 56; with_reducible exact Calls.quiet_of_same (HC0.out _)))
 go_wp2_with fail
 go_ret
 exact ⟨rfl, below_drewN HB0.out _⟩
theorem wedge_24 (p V : Nat) (L : List InsZ) (size out : Int) (r n : List Int) (aL : Option Addr) (cL : Nat) (ar : Option Addr) (cr : Nat) (an : Option Addr) (cn : Nat) (w : World) (H : VF p L size out r n) (hV : WW p V L size out r n aL cL ar cr an cn w) :
  Calls Tryz.prog 103 #[.pointer (some ⟨V, 0, none⟩), .int .i64 24] w fun e w' => e = .returned (.int .i64 ((smt p L r (fun _ => tvH) - 1) % (p : Int))) /\ Below w.heap.size w w' := by
 have h3 := H.h3
 have h4 := H.h4
 have e := em_I64 h3 h4
 have es := fun s f => (show I64 (smt p L s f) by have := smt_bd h3 L s f; unfold I64; omega)
 obtain ⟨br, orr, har, hrw⟩ := rowB_at hV.row H.hr
 subst har
 obtain ⟨bn, onn, han, hnw⟩ := rowB_at hV.nxt H.hn
 subst han
 have hh1 := H.h1
 have hl := H.hl
 have HX : Hid (∀ W, Below w.heap.size w W -> (W.cell? ⟨V, 0, none⟩ = some (.int .i64 p) /\ W.cell? ⟨V, 1, none⟩ = some (.int .i64 size) /\ W.cell? ⟨V, 2, none⟩ = some (.slice aL L.length cL) /\ W.cell? ⟨V, 3, none⟩ = some (.int .i64 out) /\ W.cell? ⟨V, 4, none⟩ = some (.slice (some ⟨br, orr, none⟩) r.length cr) /\ W.cell? ⟨V, 5, none⟩ = some (.slice (some ⟨bn, onn, none⟩) n.length cn))) := fun W h => by
  have hc := (hV.below h).cells
  exact ⟨hc.1, hc.2.1, hc.2.2.1, hc.2.2.2.1, hc.2.2.2.2.1, hc.2.2.2.2.2⟩
 have HC0 : Hid (∀ W, Below w.heap.size w W -> Calls Tryz.prog 101 #[.pointer (some ⟨V, 0, none⟩), .int .i64 9] W fun e w' => e = .returned (.int .i64 (smt p L r (rft p r 9))) /\ Below W.heap.size W w') := fun W h => wsum_any p V L size out r n aL cL (some ⟨br, orr, none⟩) cr (some ⟨bn, onn, none⟩) cn W H (hV.below h) 9 (by omega)
 have HC1 := hid (fun W h => wsub_any p V ((smt p L r (rft p r 9))) (1 : Int) W h3 h4 h (es _ _) (show I64 1 from I64_small 1))
 have HE : Hid ((smt p L r (fun _ => tvH) - 1) % (p : Int) = (((smt p L r (rft p r 9)) - (1 : Int)) % (p : Int))) := by
  unfold Hid
  rfl
 obtain ⟨R, hR⟩ := exE ((smt p L r (fun _ => tvH) - 1) % (p : Int))
 rw [<- hR] at HE ⊢
 clear hR
 have HB0 : Hid (Below w.heap.size w w) := Below.refl _ _
 obtain ⟨c0, c1, c2, c3, c4, c5⟩ := HX.out w HB0.out
 clear H hV hrw hnw e es hh1
 generalize (((smt p L r (rft p r 9)) - (1 : Int)) % (p : Int)) = t1 at *
 generalize (smt p L r (rft p r 9)) = s at *
 generalize r.length = lr at *
 generalize n.length = ln at *
 generalize L.length = nL at *
 go_enter Tryz.func103, Tryz.ntmps103
 go_wp2_with fail
 refine (HC0.out _ HB0.out).mono ?_
 rintro e w1 ⟨rfl, hb⟩
 have HB1 := hid (HB0.out.trans (hb.mono HB0.out.size))
 clear hb c0 c1 c2 c3 c4 c5
 obtain ⟨c0, c1, c2, c3, c4, c5⟩ := HX.out w1 HB1.out
 go_wp2_with fail
 refine (HC1.out _ c0).mono ?_
 rintro e w' ⟨rfl, hw'⟩
 have hw'' := hw'.symm
 subst hw''
 clear hw'
 go_wp2_with fail
 go_ret
 exact ⟨by have h := HE.out; subst h; rfl, HB1.out⟩
theorem wedge_25 (p V : Nat) (L : List InsZ) (size out : Int) (r n : List Int) (aL : Option Addr) (cL : Nat) (ar : Option Addr) (cr : Nat) (an : Option Addr) (cn : Nat) (w : World) (H : VF p L size out r n) (hV : WW p V L size out r n aL cL ar cr an cn w) :
  Calls Tryz.prog 103 #[.pointer (some ⟨V, 0, none⟩), .int .i64 25] w fun e w' => e = .returned (.int .i64 ((zat r 7 - out) % (p : Int))) /\ Below w.heap.size w w' := by
 have h3 := H.h3
 have h4 := H.h4
 have e := em_I64 h3 h4
 have es := fun s f => (show I64 (smt p L s f) by have := smt_bd h3 L s f; unfold I64; omega)
 obtain ⟨br, orr, har, hrw⟩ := rowB_at hV.row H.hr
 subst har
 obtain ⟨bn, onn, han, hnw⟩ := rowB_at hV.nxt H.hn
 subst han
 have hh1 := H.h1
 have hl := H.hl
 have HX : Hid (∀ W, Below w.heap.size w W -> (W.cell? ⟨V, 0, none⟩ = some (.int .i64 p) /\ W.cell? ⟨V, 1, none⟩ = some (.int .i64 size) /\ W.cell? ⟨V, 2, none⟩ = some (.slice aL L.length cL) /\ W.cell? ⟨V, 3, none⟩ = some (.int .i64 out) /\ W.cell? ⟨V, 4, none⟩ = some (.slice (some ⟨br, orr, none⟩) r.length cr) /\ W.cell? ⟨V, 5, none⟩ = some (.slice (some ⟨bn, onn, none⟩) n.length cn) /\ W.cell? ⟨br, orr + 7, none⟩ = some (.int .i64 (zat r 7)))) := fun W h => by
  have hc := (hV.below h).cells
  exact ⟨hc.1, hc.2.1, hc.2.2.1, hc.2.2.2.1, hc.2.2.2.2.1, hc.2.2.2.2.2, (h.cell (p := ⟨br, orr + 7, none⟩) (World.block_lt_of_cell? _ _ (hrw 7 (by omega)))).trans (hrw 7 (by omega))⟩
 have l7 := llL H 7
 have HC0 := hid (fun W h => wsub_any p V (zat r 7) out W h3 h4 h (H.fr 7) H.hout)
 have HB0 : Hid (Below w.heap.size w w) := Below.refl _ _
 obtain ⟨c0, c1, c2, c3, c4, c5, r7⟩ := HX.out w HB0.out
 clear H hV hrw hnw e es hh1
 generalize (((zat r 7) - out) % (p : Int)) = t1 at *
 generalize zat r 7 = x7 at *
 generalize r.length = lr at *
 generalize n.length = ln at *
 generalize L.length = nL at *
 go_enter Tryz.func103, Tryz.ntmps103
 go_wp2_with fail
 have QP := qpL c0
 go_quiet (first
  | (go_at_call 99; with_reducible exact Calls.quiet_of_same (HC0.out _ (QP.out _))))
 go_wp2_with fail
 go_ret
 exact ⟨rfl, below_drewN HB0.out _⟩
theorem wrule_1 (p V : Nat) (L : List InsZ) (size out : Int) (r n : List Int) (aL : Option Addr) (cL : Nat) (ar : Option Addr) (cr : Nat) (an : Option Addr) (cn : Nat) (w : World) (H : VF p L size out r n) (hV : WW p V L size out r n aL cL ar cr an cn w) :
  Calls Tryz.prog 66 #[.pointer (some ⟨V, 0, none⟩), .int .i64 ((L.length + 1 : Nat) : Int)] w fun e w' => e = .returned (.int .i64 ((zat r 3 - smt p L r (fun _ => tvC p r 0)) % (p : Int))) /\ Below w.heap.size w w' := by
 have h3 := H.h3
 have h4 := H.h4
 have e := em_I64 h3 h4
 have es := fun s f => (show I64 (smt p L s f) by have := smt_bd h3 L s f; unfold I64; omega)
 obtain ⟨br, orr, har, hrw⟩ := rowB_at hV.row H.hr
 subst har
 obtain ⟨bn, onn, han, hnw⟩ := rowB_at hV.nxt H.hn
 subst han
 have hh1 := H.h1
 have hl := H.hl
 have HX : Hid (∀ W, Below w.heap.size w W -> (W.cell? ⟨V, 0, none⟩ = some (.int .i64 p) /\ W.cell? ⟨V, 1, none⟩ = some (.int .i64 size) /\ W.cell? ⟨V, 2, none⟩ = some (.slice aL L.length cL) /\ W.cell? ⟨V, 3, none⟩ = some (.int .i64 out) /\ W.cell? ⟨V, 4, none⟩ = some (.slice (some ⟨br, orr, none⟩) r.length cr) /\ W.cell? ⟨V, 5, none⟩ = some (.slice (some ⟨bn, onn, none⟩) n.length cn) /\ W.cell? ⟨br, orr + 3, none⟩ = some (.int .i64 (zat r 3)))) := fun W h => by
  have hc := (hV.below h).cells
  exact ⟨hc.1, hc.2.1, hc.2.2.1, hc.2.2.2.1, hc.2.2.2.2.1, hc.2.2.2.2.2, (h.cell (p := ⟨br, orr + 3, none⟩) (World.block_lt_of_cell? _ _ (hrw 3 (by omega)))).trans (hrw 3 (by omega))⟩
 have l3 := llL H 3
 obtain ⟨I, hI⟩ : ∃ I : Int, I = ((L.length + 1 : Nat) : Int) := ⟨_, rfl⟩
 rw [<- hI]
 have f1 : ¬ I < (L.length : Int) := by omega
 have f2 : I - (L.length : Int) = 1 := by omega
 clear hI
 have HC0 : Hid (∀ W, Below w.heap.size w W -> Calls Tryz.prog 101 #[.pointer (some ⟨V, 0, none⟩), .int .i64 0] W fun e w' => e = .returned (.int .i64 (smt p L r (rft p r 0))) /\ Below W.heap.size W w') := fun W h => wsum_any p V L size out r n aL cL (some ⟨br, orr, none⟩) cr (some ⟨bn, onn, none⟩) cn W H (hV.below h) 0 (by omega)
 have HC1 := hid (fun W h => wsub_any p V (zat r 3) ((smt p L r (rft p r 0))) W h3 h4 h (H.fr 3) (es _ _))
 have HE : Hid ((zat r 3 - smt p L r (fun _ => tvC p r 0)) % (p : Int) = (((zat r 3) - (smt p L r (rft p r 0))) % (p : Int))) := by
  unfold Hid
  rfl
 obtain ⟨R, hR⟩ := exE ((zat r 3 - smt p L r (fun _ => tvC p r 0)) % (p : Int))
 rw [<- hR] at HE ⊢
 clear hR
 have HB0 : Hid (Below w.heap.size w w) := Below.refl _ _
 obtain ⟨c0, c1, c2, c3, c4, c5, r3⟩ := HX.out w HB0.out
 clear H hV hrw hnw e es hh1
 generalize (((zat r 3) - (smt p L r (rft p r 0))) % (p : Int)) = t at *
 generalize (smt p L r (rft p r 0)) = s at *
 generalize zat r 3 = x3 at *
 generalize r.length = lr at *
 generalize n.length = ln at *
 generalize L.length = nL at *
 go_enter Tryz.func66, Tryz.ntmps66
 go_wp2_with fail
 refine (HC0.out _ HB0.out).mono ?_
 rintro e w1 ⟨rfl, hb⟩
 have HB1 := hid (HB0.out.trans (hb.mono HB0.out.size))
 clear hb c0 c1 c2 c3 c4 c5 r3
 obtain ⟨c0, c1, c2, c3, c4, c5, r3⟩ := HX.out w1 HB1.out
 go_wp2_with fail
 refine (HC1.out _ c0).mono ?_
 rintro e w' ⟨rfl, hw'⟩
 have hw'' := hw'.symm
 subst hw''
 clear hw'
 go_wp2_with fail
 go_ret
 exact ⟨by have h := HE.out; subst h; rfl, HB1.out⟩
theorem wrule_2 (p V : Nat) (L : List InsZ) (size out : Int) (r n : List Int) (aL : Option Addr) (cL : Nat) (ar : Option Addr) (cr : Nat) (an : Option Addr) (cn : Nat) (w : World) (H : VF p L size out r n) (hV : WW p V L size out r n aL cL ar cr an cn w) :
  Calls Tryz.prog 66 #[.pointer (some ⟨V, 0, none⟩), .int .i64 ((L.length + 2 : Nat) : Int)] w fun e w' => e = .returned (.int .i64 ((zat r 4 - smt p L r (fun _ => tvC p r 1)) % (p : Int))) /\ Below w.heap.size w w' := by
 have h3 := H.h3
 have h4 := H.h4
 have e := em_I64 h3 h4
 have es := fun s f => (show I64 (smt p L s f) by have := smt_bd h3 L s f; unfold I64; omega)
 obtain ⟨br, orr, har, hrw⟩ := rowB_at hV.row H.hr
 subst har
 obtain ⟨bn, onn, han, hnw⟩ := rowB_at hV.nxt H.hn
 subst han
 have hh1 := H.h1
 have hl := H.hl
 have HX : Hid (∀ W, Below w.heap.size w W -> (W.cell? ⟨V, 0, none⟩ = some (.int .i64 p) /\ W.cell? ⟨V, 1, none⟩ = some (.int .i64 size) /\ W.cell? ⟨V, 2, none⟩ = some (.slice aL L.length cL) /\ W.cell? ⟨V, 3, none⟩ = some (.int .i64 out) /\ W.cell? ⟨V, 4, none⟩ = some (.slice (some ⟨br, orr, none⟩) r.length cr) /\ W.cell? ⟨V, 5, none⟩ = some (.slice (some ⟨bn, onn, none⟩) n.length cn) /\ W.cell? ⟨br, orr + 4, none⟩ = some (.int .i64 (zat r 4)))) := fun W h => by
  have hc := (hV.below h).cells
  exact ⟨hc.1, hc.2.1, hc.2.2.1, hc.2.2.2.1, hc.2.2.2.2.1, hc.2.2.2.2.2, (h.cell (p := ⟨br, orr + 4, none⟩) (World.block_lt_of_cell? _ _ (hrw 4 (by omega)))).trans (hrw 4 (by omega))⟩
 have l4 := llL H 4
 obtain ⟨I, hI⟩ : ∃ I : Int, I = ((L.length + 2 : Nat) : Int) := ⟨_, rfl⟩
 rw [<- hI]
 have f1 : ¬ I < (L.length : Int) := by omega
 have f2 : I - (L.length : Int) = 2 := by omega
 clear hI
 have HC0 : Hid (∀ W, Below w.heap.size w W -> Calls Tryz.prog 101 #[.pointer (some ⟨V, 0, none⟩), .int .i64 1] W fun e w' => e = .returned (.int .i64 (smt p L r (rft p r 1))) /\ Below W.heap.size W w') := fun W h => wsum_any p V L size out r n aL cL (some ⟨br, orr, none⟩) cr (some ⟨bn, onn, none⟩) cn W H (hV.below h) 1 (by omega)
 have HC1 := hid (fun W h => wsub_any p V (zat r 4) ((smt p L r (rft p r 1))) W h3 h4 h (H.fr 4) (es _ _))
 have HE : Hid ((zat r 4 - smt p L r (fun _ => tvC p r 1)) % (p : Int) = (((zat r 4) - (smt p L r (rft p r 1))) % (p : Int))) := by
  unfold Hid
  rfl
 obtain ⟨R, hR⟩ := exE ((zat r 4 - smt p L r (fun _ => tvC p r 1)) % (p : Int))
 rw [<- hR] at HE ⊢
 clear hR
 have HB0 : Hid (Below w.heap.size w w) := Below.refl _ _
 obtain ⟨c0, c1, c2, c3, c4, c5, r4⟩ := HX.out w HB0.out
 clear H hV hrw hnw e es hh1
 generalize (((zat r 4) - (smt p L r (rft p r 1))) % (p : Int)) = t at *
 generalize (smt p L r (rft p r 1)) = s at *
 generalize zat r 4 = x4 at *
 generalize r.length = lr at *
 generalize n.length = ln at *
 generalize L.length = nL at *
 go_enter Tryz.func66, Tryz.ntmps66
 go_wp2_with fail
 refine (HC0.out _ HB0.out).mono ?_
 rintro e w1 ⟨rfl, hb⟩
 have HB1 := hid (HB0.out.trans (hb.mono HB0.out.size))
 clear hb c0 c1 c2 c3 c4 c5 r4
 obtain ⟨c0, c1, c2, c3, c4, c5, r4⟩ := HX.out w1 HB1.out
 go_wp2_with fail
 refine (HC1.out _ c0).mono ?_
 rintro e w' ⟨rfl, hw'⟩
 have hw'' := hw'.symm
 subst hw''
 clear hw'
 go_wp2_with fail
 go_ret
 exact ⟨by have h := HE.out; subst h; rfl, HB1.out⟩
theorem wrule_3 (p V : Nat) (L : List InsZ) (size out : Int) (r n : List Int) (aL : Option Addr) (cL : Nat) (ar : Option Addr) (cr : Nat) (an : Option Addr) (cn : Nat) (w : World) (H : VF p L size out r n) (hV : WW p V L size out r n aL cL ar cr an cn w) :
  Calls Tryz.prog 66 #[.pointer (some ⟨V, 0, none⟩), .int .i64 ((L.length + 3 : Nat) : Int)] w fun e w' => e = .returned (.int .i64 ((zat r 5 - smt p L r (fun _ => tvC p r 2)) % (p : Int))) /\ Below w.heap.size w w' := by
 have h3 := H.h3
 have h4 := H.h4
 have e := em_I64 h3 h4
 have es := fun s f => (show I64 (smt p L s f) by have := smt_bd h3 L s f; unfold I64; omega)
 obtain ⟨br, orr, har, hrw⟩ := rowB_at hV.row H.hr
 subst har
 obtain ⟨bn, onn, han, hnw⟩ := rowB_at hV.nxt H.hn
 subst han
 have hh1 := H.h1
 have hl := H.hl
 have HX : Hid (∀ W, Below w.heap.size w W -> (W.cell? ⟨V, 0, none⟩ = some (.int .i64 p) /\ W.cell? ⟨V, 1, none⟩ = some (.int .i64 size) /\ W.cell? ⟨V, 2, none⟩ = some (.slice aL L.length cL) /\ W.cell? ⟨V, 3, none⟩ = some (.int .i64 out) /\ W.cell? ⟨V, 4, none⟩ = some (.slice (some ⟨br, orr, none⟩) r.length cr) /\ W.cell? ⟨V, 5, none⟩ = some (.slice (some ⟨bn, onn, none⟩) n.length cn) /\ W.cell? ⟨br, orr + 5, none⟩ = some (.int .i64 (zat r 5)))) := fun W h => by
  have hc := (hV.below h).cells
  exact ⟨hc.1, hc.2.1, hc.2.2.1, hc.2.2.2.1, hc.2.2.2.2.1, hc.2.2.2.2.2, (h.cell (p := ⟨br, orr + 5, none⟩) (World.block_lt_of_cell? _ _ (hrw 5 (by omega)))).trans (hrw 5 (by omega))⟩
 have l5 := llL H 5
 obtain ⟨I, hI⟩ : ∃ I : Int, I = ((L.length + 3 : Nat) : Int) := ⟨_, rfl⟩
 rw [<- hI]
 have f1 : ¬ I < (L.length : Int) := by omega
 have f2 : I - (L.length : Int) = 3 := by omega
 clear hI
 have HC0 : Hid (∀ W, Below w.heap.size w W -> Calls Tryz.prog 101 #[.pointer (some ⟨V, 0, none⟩), .int .i64 2] W fun e w' => e = .returned (.int .i64 (smt p L r (rft p r 2))) /\ Below W.heap.size W w') := fun W h => wsum_any p V L size out r n aL cL (some ⟨br, orr, none⟩) cr (some ⟨bn, onn, none⟩) cn W H (hV.below h) 2 (by omega)
 have HC1 := hid (fun W h => wsub_any p V (zat r 5) ((smt p L r (rft p r 2))) W h3 h4 h (H.fr 5) (es _ _))
 have HE : Hid ((zat r 5 - smt p L r (fun _ => tvC p r 2)) % (p : Int) = (((zat r 5) - (smt p L r (rft p r 2))) % (p : Int))) := by
  unfold Hid
  rfl
 obtain ⟨R, hR⟩ := exE ((zat r 5 - smt p L r (fun _ => tvC p r 2)) % (p : Int))
 rw [<- hR] at HE ⊢
 clear hR
 have HB0 : Hid (Below w.heap.size w w) := Below.refl _ _
 obtain ⟨c0, c1, c2, c3, c4, c5, r5⟩ := HX.out w HB0.out
 clear H hV hrw hnw e es hh1
 generalize (((zat r 5) - (smt p L r (rft p r 2))) % (p : Int)) = t at *
 generalize (smt p L r (rft p r 2)) = s at *
 generalize zat r 5 = x5 at *
 generalize r.length = lr at *
 generalize n.length = ln at *
 generalize L.length = nL at *
 go_enter Tryz.func66, Tryz.ntmps66
 go_wp2_with fail
 refine (HC0.out _ HB0.out).mono ?_
 rintro e w1 ⟨rfl, hb⟩
 have HB1 := hid (HB0.out.trans (hb.mono HB0.out.size))
 clear hb c0 c1 c2 c3 c4 c5 r5
 obtain ⟨c0, c1, c2, c3, c4, c5, r5⟩ := HX.out w1 HB1.out
 go_wp2_with fail
 refine (HC1.out _ c0).mono ?_
 rintro e w' ⟨rfl, hw'⟩
 have hw'' := hw'.symm
 subst hw''
 clear hw'
 go_wp2_with fail
 go_ret
 exact ⟨by have h := HE.out; subst h; rfl, HB1.out⟩
theorem wrule_4 (p V : Nat) (L : List InsZ) (size out : Int) (r n : List Int) (aL : Option Addr) (cL : Nat) (ar : Option Addr) (cr : Nat) (an : Option Addr) (cn : Nat) (w : World) (H : VF p L size out r n) (hV : WW p V L size out r n aL cL ar cr an cn w) :
  Calls Tryz.prog 66 #[.pointer (some ⟨V, 0, none⟩), .int .i64 ((L.length + 4 : Nat) : Int)] w fun e w' => e = .returned (.int .i64 (smt p L r (fun _ => tvW p r))) /\ Below w.heap.size w w' := by
 have h3 := H.h3
 have h4 := H.h4
 have e := em_I64 h3 h4
 have es := fun s f => (show I64 (smt p L s f) by have := smt_bd h3 L s f; unfold I64; omega)
 obtain ⟨br, orr, har, hrw⟩ := rowB_at hV.row H.hr
 subst har
 obtain ⟨bn, onn, han, hnw⟩ := rowB_at hV.nxt H.hn
 subst han
 have hh1 := H.h1
 have hl := H.hl
 have HX : Hid (∀ W, Below w.heap.size w W -> (W.cell? ⟨V, 0, none⟩ = some (.int .i64 p) /\ W.cell? ⟨V, 1, none⟩ = some (.int .i64 size) /\ W.cell? ⟨V, 2, none⟩ = some (.slice aL L.length cL) /\ W.cell? ⟨V, 3, none⟩ = some (.int .i64 out) /\ W.cell? ⟨V, 4, none⟩ = some (.slice (some ⟨br, orr, none⟩) r.length cr) /\ W.cell? ⟨V, 5, none⟩ = some (.slice (some ⟨bn, onn, none⟩) n.length cn))) := fun W h => by
  have hc := (hV.below h).cells
  exact ⟨hc.1, hc.2.1, hc.2.2.1, hc.2.2.2.1, hc.2.2.2.2.1, hc.2.2.2.2.2⟩
 obtain ⟨I, hI⟩ : ∃ I : Int, I = ((L.length + 4 : Nat) : Int) := ⟨_, rfl⟩
 rw [<- hI]
 have f1 : ¬ I < (L.length : Int) := by omega
 have f2 : I - (L.length : Int) = 4 := by omega
 clear hI
 have HC0 : Hid (∀ W, Below w.heap.size w W -> Calls Tryz.prog 101 #[.pointer (some ⟨V, 0, none⟩), .int .i64 3] W fun e w' => e = .returned (.int .i64 (smt p L r (rft p r 3))) /\ Below W.heap.size W w') := fun W h => wsum_any p V L size out r n aL cL (some ⟨br, orr, none⟩) cr (some ⟨bn, onn, none⟩) cn W H (hV.below h) 3 (by omega)
 have HE : Hid (smt p L r (fun _ => tvW p r) = (smt p L r (rft p r 3))) := by
  unfold Hid
  rfl
 obtain ⟨R, hR⟩ := exE (smt p L r (fun _ => tvW p r))
 rw [<- hR] at HE ⊢
 clear hR
 have HB0 : Hid (Below w.heap.size w w) := Below.refl _ _
 obtain ⟨c0, c1, c2, c3, c4, c5⟩ := HX.out w HB0.out
 clear H hV hrw hnw e es hh1
 generalize (smt p L r (rft p r 3)) = s at *
 generalize r.length = lr at *
 generalize n.length = ln at *
 generalize L.length = nL at *
 go_enter Tryz.func66, Tryz.ntmps66
 go_wp2_with fail
 refine (HC0.out _ HB0.out).mono ?_
 rintro e w1 ⟨rfl, hb⟩
 have HB1 := hid (HB0.out.trans (hb.mono HB0.out.size))
 clear hb c0 c1 c2 c3 c4 c5
 obtain ⟨c0, c1, c2, c3, c4, c5⟩ := HX.out w1 HB1.out
 go_wp2_with fail
 go_ret
 exact ⟨by have h := HE.out; subst h; rfl, HB1.out⟩
theorem wrule_5 (p V : Nat) (L : List InsZ) (size out : Int) (r n : List Int) (aL : Option Addr) (cL : Nat) (ar : Option Addr) (cr : Nat) (an : Option Addr) (cn : Nat) (w : World) (H : VF p L size out r n) (hV : WW p V L size out r n aL cL ar cr an cn w) :
  Calls Tryz.prog 66 #[.pointer (some ⟨V, 0, none⟩), .int .i64 ((L.length + 5 : Nat) : Int)] w fun e w' => e = .returned (.int .i64 (smt p L r (tvM p r))) /\ Below w.heap.size w w' := by
 have h3 := H.h3
 have h4 := H.h4
 have e := em_I64 h3 h4
 have es := fun s f => (show I64 (smt p L s f) by have := smt_bd h3 L s f; unfold I64; omega)
 obtain ⟨br, orr, har, hrw⟩ := rowB_at hV.row H.hr
 subst har
 obtain ⟨bn, onn, han, hnw⟩ := rowB_at hV.nxt H.hn
 subst han
 have hh1 := H.h1
 have hl := H.hl
 have HX : Hid (∀ W, Below w.heap.size w W -> (W.cell? ⟨V, 0, none⟩ = some (.int .i64 p) /\ W.cell? ⟨V, 1, none⟩ = some (.int .i64 size) /\ W.cell? ⟨V, 2, none⟩ = some (.slice aL L.length cL) /\ W.cell? ⟨V, 3, none⟩ = some (.int .i64 out) /\ W.cell? ⟨V, 4, none⟩ = some (.slice (some ⟨br, orr, none⟩) r.length cr) /\ W.cell? ⟨V, 5, none⟩ = some (.slice (some ⟨bn, onn, none⟩) n.length cn))) := fun W h => by
  have hc := (hV.below h).cells
  exact ⟨hc.1, hc.2.1, hc.2.2.1, hc.2.2.2.1, hc.2.2.2.2.1, hc.2.2.2.2.2⟩
 obtain ⟨I, hI⟩ : ∃ I : Int, I = ((L.length + 5 : Nat) : Int) := ⟨_, rfl⟩
 rw [<- hI]
 have f1 : ¬ I < (L.length : Int) := by omega
 have f2 : I - (L.length : Int) = 5 := by omega
 clear hI
 have HC0 : Hid (∀ W, Below w.heap.size w W -> Calls Tryz.prog 101 #[.pointer (some ⟨V, 0, none⟩), .int .i64 4] W fun e w' => e = .returned (.int .i64 (smt p L r (rft p r 4))) /\ Below W.heap.size W w') := fun W h => wsum_any p V L size out r n aL cL (some ⟨br, orr, none⟩) cr (some ⟨bn, onn, none⟩) cn W H (hV.below h) 4 (by omega)
 have HE : Hid (smt p L r (tvM p r) = (smt p L r (rft p r 4))) := by
  unfold Hid
  rfl
 obtain ⟨R, hR⟩ := exE (smt p L r (tvM p r))
 rw [<- hR] at HE ⊢
 clear hR
 have HB0 : Hid (Below w.heap.size w w) := Below.refl _ _
 obtain ⟨c0, c1, c2, c3, c4, c5⟩ := HX.out w HB0.out
 clear H hV hrw hnw e es hh1
 generalize (smt p L r (rft p r 4)) = s at *
 generalize r.length = lr at *
 generalize n.length = ln at *
 generalize L.length = nL at *
 go_enter Tryz.func66, Tryz.ntmps66
 go_wp2_with fail
 refine (HC0.out _ HB0.out).mono ?_
 rintro e w1 ⟨rfl, hb⟩
 have HB1 := hid (HB0.out.trans (hb.mono HB0.out.size))
 clear hb c0 c1 c2 c3 c4 c5
 obtain ⟨c0, c1, c2, c3, c4, c5⟩ := HX.out w1 HB1.out
 go_wp2_with fail
 go_ret
 exact ⟨by have h := HE.out; subst h; rfl, HB1.out⟩
theorem wrule_13 (p V : Nat) (L : List InsZ) (size out : Int) (r n : List Int) (aL : Option Addr) (cL : Nat) (ar : Option Addr) (cr : Nat) (an : Option Addr) (cn : Nat) (w : World) (H : VF p L size out r n) (hV : WW p V L size out r n aL cL ar cr an cn w) :
  Calls Tryz.prog 66 #[.pointer (some ⟨V, 0, none⟩), .int .i64 ((L.length + 13 : Nat) : Int)] w fun e w' => e = .returned (.int .i64 ((zat n 0 - smt p L r (fun _ => tvF p r)) % (p : Int))) /\ Below w.heap.size w w' := by
 have h3 := H.h3
 have h4 := H.h4
 have e := em_I64 h3 h4
 have es := fun s f => (show I64 (smt p L s f) by have := smt_bd h3 L s f; unfold I64; omega)
 obtain ⟨br, orr, har, hrw⟩ := rowB_at hV.row H.hr
 subst har
 obtain ⟨bn, onn, han, hnw⟩ := rowB_at hV.nxt H.hn
 subst han
 have hh1 := H.h1
 have hl := H.hl
 have HX : Hid (∀ W, Below w.heap.size w W -> (W.cell? ⟨V, 0, none⟩ = some (.int .i64 p) /\ W.cell? ⟨V, 1, none⟩ = some (.int .i64 size) /\ W.cell? ⟨V, 2, none⟩ = some (.slice aL L.length cL) /\ W.cell? ⟨V, 3, none⟩ = some (.int .i64 out) /\ W.cell? ⟨V, 4, none⟩ = some (.slice (some ⟨br, orr, none⟩) r.length cr) /\ W.cell? ⟨V, 5, none⟩ = some (.slice (some ⟨bn, onn, none⟩) n.length cn) /\ W.cell? ⟨bn, onn, none⟩ = some (.int .i64 (zat n 0)))) := fun W h => by
  have hc := (hV.below h).cells
  exact ⟨hc.1, hc.2.1, hc.2.2.1, hc.2.2.2.1, hc.2.2.2.2.1, hc.2.2.2.2.2, (h.cell (p := ⟨bn, onn, none⟩) (World.block_lt_of_cell? _ _ (hnw 0 (by omega)))).trans (hnw 0 (by omega))⟩
 have m0 : (0 : Int) < (n.length : Int) := by have := H.hn; omega
 have m0' : 0 < n.length := by have := H.hn; omega
 obtain ⟨I, hI⟩ : ∃ I : Int, I = ((L.length + 13 : Nat) : Int) := ⟨_, rfl⟩
 rw [<- hI]
 have f1 : ¬ I < (L.length : Int) := by omega
 have f2 : I - (L.length : Int) = 13 := by omega
 clear hI
 have HC0 : Hid (∀ W, Below w.heap.size w W -> Calls Tryz.prog 101 #[.pointer (some ⟨V, 0, none⟩), .int .i64 6] W fun e w' => e = .returned (.int .i64 (smt p L r (rft p r 6))) /\ Below W.heap.size W w') := fun W h => wsum_any p V L size out r n aL cL (some ⟨br, orr, none⟩) cr (some ⟨bn, onn, none⟩) cn W H (hV.below h) 6 (by omega)
 have HC1 := hid (fun W h => wsub_any p V (zat n 0) ((smt p L r (rft p r 6))) W h3 h4 h (H.fn 0) (es _ _))
 have HE : Hid ((zat n 0 - smt p L r (fun _ => tvF p r)) % (p : Int) = (((zat n 0) - (smt p L r (rft p r 6))) % (p : Int))) := by
  unfold Hid
  rfl
 obtain ⟨R, hR⟩ := exE ((zat n 0 - smt p L r (fun _ => tvF p r)) % (p : Int))
 rw [<- hR] at HE ⊢
 clear hR
 have HB0 : Hid (Below w.heap.size w w) := Below.refl _ _
 obtain ⟨c0, c1, c2, c3, c4, c5, n0⟩ := HX.out w HB0.out
 clear H hV hrw hnw e es hh1
 generalize (((zat n 0) - (smt p L r (rft p r 6))) % (p : Int)) = t at *
 generalize (smt p L r (rft p r 6)) = s at *
 generalize zat n 0 = y0 at *
 generalize r.length = lr at *
 generalize n.length = ln at *
 generalize L.length = nL at *
 go_enter Tryz.func66, Tryz.ntmps66
 go_wp2_with fail
 refine (HC0.out _ HB0.out).mono ?_
 rintro e w1 ⟨rfl, hb⟩
 have HB1 := hid (HB0.out.trans (hb.mono HB0.out.size))
 clear hb c0 c1 c2 c3 c4 c5 n0
 obtain ⟨c0, c1, c2, c3, c4, c5, n0⟩ := HX.out w1 HB1.out
 go_wp2_with fail
 refine (HC1.out _ c0).mono ?_
 rintro e w' ⟨rfl, hw'⟩
 have hw'' := hw'.symm
 subst hw''
 clear hw'
 go_wp2_with fail
 go_ret
 exact ⟨by have h := HE.out; subst h; rfl, HB1.out⟩
theorem wrule_14 (p V : Nat) (L : List InsZ) (size out : Int) (r n : List Int) (aL : Option Addr) (cL : Nat) (ar : Option Addr) (cr : Nat) (an : Option Addr) (cn : Nat) (w : World) (H : VF p L size out r n) (hV : WW p V L size out r n aL cL ar cr an cn w) :
  Calls Tryz.prog 66 #[.pointer (some ⟨V, 0, none⟩), .int .i64 ((L.length + 14 : Nat) : Int)] w fun e w' => e = .returned (.int .i64 ((zat n 1 - smt p L r (fun _ => tvA p r)) % (p : Int))) /\ Below w.heap.size w w' := by
 have h3 := H.h3
 have h4 := H.h4
 have e := em_I64 h3 h4
 have es := fun s f => (show I64 (smt p L s f) by have := smt_bd h3 L s f; unfold I64; omega)
 obtain ⟨br, orr, har, hrw⟩ := rowB_at hV.row H.hr
 subst har
 obtain ⟨bn, onn, han, hnw⟩ := rowB_at hV.nxt H.hn
 subst han
 have hh1 := H.h1
 have hl := H.hl
 have HX : Hid (∀ W, Below w.heap.size w W -> (W.cell? ⟨V, 0, none⟩ = some (.int .i64 p) /\ W.cell? ⟨V, 1, none⟩ = some (.int .i64 size) /\ W.cell? ⟨V, 2, none⟩ = some (.slice aL L.length cL) /\ W.cell? ⟨V, 3, none⟩ = some (.int .i64 out) /\ W.cell? ⟨V, 4, none⟩ = some (.slice (some ⟨br, orr, none⟩) r.length cr) /\ W.cell? ⟨V, 5, none⟩ = some (.slice (some ⟨bn, onn, none⟩) n.length cn) /\ W.cell? ⟨bn, onn + 1, none⟩ = some (.int .i64 (zat n 1)))) := fun W h => by
  have hc := (hV.below h).cells
  exact ⟨hc.1, hc.2.1, hc.2.2.1, hc.2.2.2.1, hc.2.2.2.2.1, hc.2.2.2.2.2, (h.cell (p := ⟨bn, onn + 1, none⟩) (World.block_lt_of_cell? _ _ (hnw 1 (by omega)))).trans (hnw 1 (by omega))⟩
 have m1 : (1 : Int) < (n.length : Int) := by have := H.hn; omega
 have m1' : 1 < n.length := by have := H.hn; omega
 obtain ⟨I, hI⟩ : ∃ I : Int, I = ((L.length + 14 : Nat) : Int) := ⟨_, rfl⟩
 rw [<- hI]
 have f1 : ¬ I < (L.length : Int) := by omega
 have f2 : I - (L.length : Int) = 14 := by omega
 clear hI
 have HC0 : Hid (∀ W, Below w.heap.size w W -> Calls Tryz.prog 101 #[.pointer (some ⟨V, 0, none⟩), .int .i64 7] W fun e w' => e = .returned (.int .i64 (smt p L r (rft p r 7))) /\ Below W.heap.size W w') := fun W h => wsum_any p V L size out r n aL cL (some ⟨br, orr, none⟩) cr (some ⟨bn, onn, none⟩) cn W H (hV.below h) 7 (by omega)
 have HC1 := hid (fun W h => wsub_any p V (zat n 1) ((smt p L r (rft p r 7))) W h3 h4 h (H.fn 1) (es _ _))
 have HE : Hid ((zat n 1 - smt p L r (fun _ => tvA p r)) % (p : Int) = (((zat n 1) - (smt p L r (rft p r 7))) % (p : Int))) := by
  unfold Hid
  rfl
 obtain ⟨R, hR⟩ := exE ((zat n 1 - smt p L r (fun _ => tvA p r)) % (p : Int))
 rw [<- hR] at HE ⊢
 clear hR
 have HB0 : Hid (Below w.heap.size w w) := Below.refl _ _
 obtain ⟨c0, c1, c2, c3, c4, c5, n1⟩ := HX.out w HB0.out
 clear H hV hrw hnw e es hh1
 generalize (((zat n 1) - (smt p L r (rft p r 7))) % (p : Int)) = t at *
 generalize (smt p L r (rft p r 7)) = s at *
 generalize zat n 1 = y1 at *
 generalize r.length = lr at *
 generalize n.length = ln at *
 generalize L.length = nL at *
 go_enter Tryz.func66, Tryz.ntmps66
 go_wp2_with fail
 refine (HC0.out _ HB0.out).mono ?_
 rintro e w1 ⟨rfl, hb⟩
 have HB1 := hid (HB0.out.trans (hb.mono HB0.out.size))
 clear hb c0 c1 c2 c3 c4 c5 n1
 obtain ⟨c0, c1, c2, c3, c4, c5, n1⟩ := HX.out w1 HB1.out
 go_wp2_with fail
 refine (HC1.out _ c0).mono ?_
 rintro e w' ⟨rfl, hw'⟩
 have hw'' := hw'.symm
 subst hw''
 clear hw'
 go_wp2_with fail
 go_ret
 exact ⟨by have h := HE.out; subst h; rfl, HB1.out⟩
theorem wrule_15 (p V : Nat) (L : List InsZ) (size out : Int) (r n : List Int) (aL : Option Addr) (cL : Nat) (ar : Option Addr) (cr : Nat) (an : Option Addr) (cn : Nat) (w : World) (H : VF p L size out r n) (hV : WW p V L size out r n aL cL ar cr an cn w) :
  Calls Tryz.prog 66 #[.pointer (some ⟨V, 0, none⟩), .int .i64 ((L.length + 15 : Nat) : Int)] w fun e w' => e = .returned (.int .i64 ((zat n 2 - smt p L r (fun _ => tvR r)) % (p : Int))) /\ Below w.heap.size w w' := by
 have h3 := H.h3
 have h4 := H.h4
 have e := em_I64 h3 h4
 have es := fun s f => (show I64 (smt p L s f) by have := smt_bd h3 L s f; unfold I64; omega)
 obtain ⟨br, orr, har, hrw⟩ := rowB_at hV.row H.hr
 subst har
 obtain ⟨bn, onn, han, hnw⟩ := rowB_at hV.nxt H.hn
 subst han
 have hh1 := H.h1
 have hl := H.hl
 have HX : Hid (∀ W, Below w.heap.size w W -> (W.cell? ⟨V, 0, none⟩ = some (.int .i64 p) /\ W.cell? ⟨V, 1, none⟩ = some (.int .i64 size) /\ W.cell? ⟨V, 2, none⟩ = some (.slice aL L.length cL) /\ W.cell? ⟨V, 3, none⟩ = some (.int .i64 out) /\ W.cell? ⟨V, 4, none⟩ = some (.slice (some ⟨br, orr, none⟩) r.length cr) /\ W.cell? ⟨V, 5, none⟩ = some (.slice (some ⟨bn, onn, none⟩) n.length cn) /\ W.cell? ⟨bn, onn + 2, none⟩ = some (.int .i64 (zat n 2)))) := fun W h => by
  have hc := (hV.below h).cells
  exact ⟨hc.1, hc.2.1, hc.2.2.1, hc.2.2.2.1, hc.2.2.2.2.1, hc.2.2.2.2.2, (h.cell (p := ⟨bn, onn + 2, none⟩) (World.block_lt_of_cell? _ _ (hnw 2 (by omega)))).trans (hnw 2 (by omega))⟩
 have m2 : (2 : Int) < (n.length : Int) := by have := H.hn; omega
 obtain ⟨I, hI⟩ : ∃ I : Int, I = ((L.length + 15 : Nat) : Int) := ⟨_, rfl⟩
 rw [<- hI]
 have f1 : ¬ I < (L.length : Int) := by omega
 have f2 : I - (L.length : Int) = 15 := by omega
 clear hI
 have HC0 : Hid (∀ W, Below w.heap.size w W -> Calls Tryz.prog 101 #[.pointer (some ⟨V, 0, none⟩), .int .i64 8] W fun e w' => e = .returned (.int .i64 (smt p L r (rft p r 8))) /\ Below W.heap.size W w') := fun W h => wsum_any p V L size out r n aL cL (some ⟨br, orr, none⟩) cr (some ⟨bn, onn, none⟩) cn W H (hV.below h) 8 (by omega)
 have HC1 := hid (fun W h => wsub_any p V (zat n 2) ((smt p L r (rft p r 8))) W h3 h4 h (H.fn 2) (es _ _))
 have HE : Hid ((zat n 2 - smt p L r (fun _ => tvR r)) % (p : Int) = (((zat n 2) - (smt p L r (rft p r 8))) % (p : Int))) := by
  unfold Hid
  rfl
 obtain ⟨R, hR⟩ := exE ((zat n 2 - smt p L r (fun _ => tvR r)) % (p : Int))
 rw [<- hR] at HE ⊢
 clear hR
 have HB0 : Hid (Below w.heap.size w w) := Below.refl _ _
 obtain ⟨c0, c1, c2, c3, c4, c5, n2⟩ := HX.out w HB0.out
 clear H hV hrw hnw e es hh1
 generalize (((zat n 2) - (smt p L r (rft p r 8))) % (p : Int)) = t at *
 generalize (smt p L r (rft p r 8)) = s at *
 generalize zat n 2 = y2 at *
 generalize r.length = lr at *
 generalize n.length = ln at *
 generalize L.length = nL at *
 go_enter Tryz.func66, Tryz.ntmps66
 go_wp2_with fail
 refine (HC0.out _ HB0.out).mono ?_
 rintro e w1 ⟨rfl, hb⟩
 have HB1 := hid (HB0.out.trans (hb.mono HB0.out.size))
 clear hb c0 c1 c2 c3 c4 c5 n2
 obtain ⟨c0, c1, c2, c3, c4, c5, n2⟩ := HX.out w1 HB1.out
 go_wp2_with fail
 refine (HC1.out _ c0).mono ?_
 rintro e w' ⟨rfl, hw'⟩
 have hw'' := hw'.symm
 subst hw''
 clear hw'
 go_wp2_with fail
 go_ret
 exact ⟨by have h := HE.out; subst h; rfl, HB1.out⟩
end Go.Proofs.YtjlngcmkgkiplaaGreatDoor
