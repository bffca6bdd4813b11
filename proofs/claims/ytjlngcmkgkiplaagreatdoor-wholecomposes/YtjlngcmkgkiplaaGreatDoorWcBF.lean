
import Derived.Test.YtjlngcmkgkiplaaGreatDoorWcBE
set_option maxRecDepth 1000000
set_option maxHeartbeats 8000000
namespace Go.Proofs.YtjlngcmkgkiplaaGreatDoor
open Go.RowKit Go.Maps
theorem wrule_6 (p V : Nat) (L : List InsZ) (size out : Int) (r n : List Int) (aL : Option Addr) (cL : Nat) (ar : Option Addr) (cr : Nat) (an : Option Addr) (cn : Nat) (w : World) (H : VF p L size out r n) (hV : WW p V L size out r n aL cL ar cr an cn w) :
  Calls Tryz.prog 66 #[.pointer (some ⟨V, 0, none⟩), .int .i64 ((L.length + 6 : Nat) : Int)] w fun e w' => e = .returned (.int .i64 (ord1 p (zat r 12) (zat r 13))) /\ Below w.heap.size w w' := by
 have h3 := H.h3
 have h4 := H.h4
 have e := em_I64 h3 h4
 have es := fun s f => (show I64 (smt p L s f) by have := smt_bd h3 L s f; unfold I64; omega)
 obtain ⟨br, orr, har, hrw⟩ := rowB_at hV.row H.hr
 subst har
 obtain ⟨bn, onn, han, hnw⟩ := rowB_at hV.nxt H.hn
 subst han
 have hh1 := H.h1
 have hl := H.hl
 have HX : Hid (∀ W, Below w.heap.size w W -> (W.cell? ⟨V, 0, none⟩ = some (.int .i64 p) /\ W.cell? ⟨V, 1, none⟩ = some (.int .i64 size) /\ W.cell? ⟨V, 2, none⟩ = some (.slice aL L.length cL) /\ W.cell? ⟨V, 3, none⟩ = some (.int .i64 out) /\ W.cell? ⟨V, 4, none⟩ = some (.slice (some ⟨br, orr, none⟩) r.length cr) /\ W.cell? ⟨V, 5, none⟩ = some (.slice (some ⟨bn, onn, none⟩) n.length cn) /\ W.cell? ⟨br, orr + 12, none⟩ = some (.int .i64 (zat r 12)) /\ W.cell? ⟨br, orr + 13, none⟩ = some (.int .i64 (zat r 13)) /\ W.cell? ⟨br, orr + 16, none⟩ = some (.int .i64 (zat r 16)) /\ W.cell? ⟨br, orr + 17, none⟩ = some (.int .i64 (zat r 17)))) := fun W h => by
  have hc := (hV.below h).cells
  exact ⟨hc.1, hc.2.1, hc.2.2.1, hc.2.2.2.1, hc.2.2.2.2.1, hc.2.2.2.2.2, (h.cell (p := ⟨br, orr + 12, none⟩) (World.block_lt_of_cell? _ _ (hrw 12 (by omega)))).trans (hrw 12 (by omega)), (h.cell (p := ⟨br, orr + 13, none⟩) (World.block_lt_of_cell? _ _ (hrw 13 (by omega)))).trans (hrw 13 (by omega)), (h.cell (p := ⟨br, orr + 16, none⟩) (World.block_lt_of_cell? _ _ (hrw 16 (by omega)))).trans (hrw 16 (by omega)), (h.cell (p := ⟨br, orr + 17, none⟩) (World.block_lt_of_cell? _ _ (hrw 17 (by omega)))).trans (hrw 17 (by omega))⟩
 have l12 := llL H 12
 have l13 := llL H 13
 have l16 := llL H 16
 have l17 := llL H 17
 obtain ⟨I, hI⟩ : ∃ I : Int, I = ((L.length + 6 : Nat) : Int) := ⟨_, rfl⟩
 rw [<- hI]
 have f1 : ¬ I < (L.length : Int) := by omega
 have f2 : I - (L.length : Int) = 6 := by omega
 clear hI
 have HC0 : Hid (∀ W : World, W.cell? ⟨V, 0, none⟩ = some (.int .i64 p) -> Calls Tryz.prog 102 #[.pointer (some ⟨V, 0, none⟩), .int .i64 (zat r 12), .int .i64 (zat r 16), .int .i64 (zat r 13), .int .i64 (zat r 17), .bool false] W fun e w' => e = .returned (.int .i64 (ord1 p (zat r 12) (zat r 13))) /\ w' = W) := fun W h => worder_false p V _ _ _ _ W h3 h4 h (H.fr 12) (H.fr 16) (H.fr 13) (H.fr 17)
 have HB0 : Hid (Below w.heap.size w w) := Below.refl _ _
 obtain ⟨c0, c1, c2, c3, c4, c5, r12, r13, r16, r17⟩ := HX.out w HB0.out
 clear H hV hrw hnw e es hh1
 generalize (ord1 p (zat r 12) (zat r 13)) = t at *
 generalize zat r 12 = x12 at *
 generalize zat r 13 = x13 at *
 generalize zat r 16 = x16 at *
 generalize zat r 17 = x17 at *
 generalize r.length = lr at *
 generalize n.length = ln at *
 generalize L.length = nL at *
 go_enter Tryz.func66, Tryz.ntmps66
 go_wp2_with fail
 have QP := qpL c0
 go_quiet (first
  | (go_at_call 102; with_reducible exact Calls.quiet_of_same (HC0.out _ (QP.out _))))
 go_wp2_with fail
 go_ret
 exact ⟨rfl, below_drewN HB0.out _⟩
theorem wrule_7 (p V : Nat) (L : List InsZ) (size out : Int) (r n : List Int) (aL : Option Addr) (cL : Nat) (ar : Option Addr) (cr : Nat) (an : Option Addr) (cn : Nat) (w : World) (H : VF p L size out r n) (hV : WW p V L size out r n aL cL ar cr an cn w) :
  Calls Tryz.prog 66 #[.pointer (some ⟨V, 0, none⟩), .int .i64 ((L.length + 7 : Nat) : Int)] w fun e w' => e = .returned (.int .i64 (ord2 p (zat r 12) (zat r 16) (zat r 13) (zat r 17))) /\ Below w.heap.size w w' := by
 have h3 := H.h3
 have h4 := H.h4
 have e := em_I64 h3 h4
 have es := fun s f => (show I64 (smt p L s f) by have := smt_bd h3 L s f; unfold I64; omega)
 obtain ⟨br, orr, har, hrw⟩ := rowB_at hV.row H.hr
 subst har
 obtain ⟨bn, onn, han, hnw⟩ := rowB_at hV.nxt H.hn
 subst han
 have hh1 := H.h1
 have hl := H.hl
 have HX : Hid (∀ W, Below w.heap.size w W -> (W.cell? ⟨V, 0, none⟩ = some (.int .i64 p) /\ W.cell? ⟨V, 1, none⟩ = some (.int .i64 size) /\ W.cell? ⟨V, 2, none⟩ = some (.slice aL L.length cL) /\ W.cell? ⟨V, 3, none⟩ = some (.int .i64 out) /\ W.cell? ⟨V, 4, none⟩ = some (.slice (some ⟨br, orr, none⟩) r.length cr) /\ W.cell? ⟨V, 5, none⟩ = some (.slice (some ⟨bn, onn, none⟩) n.length cn) /\ W.cell? ⟨br, orr + 12, none⟩ = some (.int .i64 (zat r 12)) /\ W.cell? ⟨br, orr + 13, none⟩ = some (.int .i64 (zat r 13)) /\ W.cell? ⟨br, orr + 16, none⟩ = some (.int .i64 (zat r 16)) /\ W.cell? ⟨br, orr + 17, none⟩ = some (.int .i64 (zat r 17)))) := fun W h => by
  have hc := (hV.below h).cells
  exact ⟨hc.1, hc.2.1, hc.2.2.1, hc.2.2.2.1, hc.2.2.2.2.1, hc.2.2.2.2.2, (h.cell (p := ⟨br, orr + 12, none⟩) (World.block_lt_of_cell? _ _ (hrw 12 (by omega)))).trans (hrw 12 (by omega)), (h.cell (p := ⟨br, orr + 13, none⟩) (World.block_lt_of_cell? _ _ (hrw 13 (by omega)))).trans (hrw 13 (by omega)), (h.cell (p := ⟨br, orr + 16, none⟩) (World.block_lt_of_cell? _ _ (hrw 16 (by omega)))).trans (hrw 16 (by omega)), (h.cell (p := ⟨br, orr + 17, none⟩) (World.block_lt_of_cell? _ _ (hrw 17 (by omega)))).trans (hrw 17 (by omega))⟩
 have l12 := llL H 12
 have l13 := llL H 13
 have l16 := llL H 16
 have l17 := llL H 17
 obtain ⟨I, hI⟩ : ∃ I : Int, I = ((L.length + 7 : Nat) : Int) := ⟨_, rfl⟩
 rw [<- hI]
 have f1 : ¬ I < (L.length : Int) := by omega
 have f2 : I - (L.length : Int) = 7 := by omega
 clear hI
 have HC0 : Hid (∀ W : World, W.cell? ⟨V, 0, none⟩ = some (.int .i64 p) -> Calls Tryz.prog 102 #[.pointer (some ⟨V, 0, none⟩), .int .i64 (zat r 12), .int .i64 (zat r 16), .int .i64 (zat r 13), .int .i64 (zat r 17), .bool true] W fun e w' => e = .returned (.int .i64 (ord2 p (zat r 12) (zat r 16) (zat r 13) (zat r 17))) /\ w' = W) := fun W h => worder_true p V _ _ _ _ W h3 h4 h (H.fr 12) (H.fr 16) (H.fr 13) (H.fr 17)
 have HB0 : Hid (Below w.heap.size w w) := Below.refl _ _
 obtain ⟨c0, c1, c2, c3, c4, c5, r12, r13, r16, r17⟩ := HX.out w HB0.out
 clear H hV hrw hnw e es hh1
 generalize (ord2 p (zat r 12) (zat r 16) (zat r 13) (zat r 17)) = t at *
 generalize zat r 12 = x12 at *
 generalize zat r 13 = x13 at *
 generalize zat r 16 = x16 at *
 generalize zat r 17 = x17 at *
 generalize r.length = lr at *
 generalize n.length = ln at *
 generalize L.length = nL at *
 go_enter Tryz.func66, Tryz.ntmps66
 go_wp2_with fail
 have QP := qpL c0
 go_quiet (first
  | (go_at_call 102; with_reducible exact Calls.quiet_of_same (HC0.out _ (QP.out _))))
 go_wp2_with fail
 go_ret
 exact ⟨rfl, below_drewN HB0.out _⟩
theorem wrule_8 (p V : Nat) (L : List InsZ) (size out : Int) (r n : List Int) (aL : Option Addr) (cL : Nat) (ar : Option Addr) (cr : Nat) (an : Option Addr) (cn : Nat) (w : World) (H : VF p L size out r n) (hV : WW p V L size out r n aL cL ar cr an cn w) :
  Calls Tryz.prog 66 #[.pointer (some ⟨V, 0, none⟩), .int .i64 ((L.length + 8 : Nat) : Int)] w fun e w' => e = .returned (.int .i64 (ord1 p (zat r 13) (zat r 14))) /\ Below w.heap.size w w' := by
 have h3 := H.h3
 have h4 := H.h4
 have e := em_I64 h3 h4
 have es := fun s f => (show I64 (smt p L s f) by have := smt_bd h3 L s f; unfold I64; omega)
 obtain ⟨br, orr, har, hrw⟩ := rowB_at hV.row H.hr
 subst har
 obtain ⟨bn, onn, han, hnw⟩ := rowB_at hV.nxt H.hn
 subst han
 have hh1 := H.h1
 have hl := H.hl
 have HX : Hid (∀ W, Below w.heap.size w W -> (W.cell? ⟨V, 0, none⟩ = some (.int .i64 p) /\ W.cell? ⟨V, 1, none⟩ = some (.int .i64 size) /\ W.cell? ⟨V, 2, none⟩ = some (.slice aL L.length cL) /\ W.cell? ⟨V, 3, none⟩ = some (.int .i64 out) /\ W.cell? ⟨V, 4, none⟩ = some (.slice (some ⟨br, orr, none⟩) r.length cr) /\ W.cell? ⟨V, 5, none⟩ = some (.slice (some ⟨bn, onn, none⟩) n.length cn) /\ W.cell? ⟨br, orr + 13, none⟩ = some (.int .i64 (zat r 13)) /\ W.cell? ⟨br, orr + 14, none⟩ = some (.int .i64 (zat r 14)) /\ W.cell? ⟨br, orr + 17, none⟩ = some (.int .i64 (zat r 17)) /\ W.cell? ⟨br, orr + 18, none⟩ = some (.int .i64 (zat r 18)))) := fun W h => by
  have hc := (hV.below h).cells
  exact ⟨hc.1, hc.2.1, hc.2.2.1, hc.2.2.2.1, hc.2.2.2.2.1, hc.2.2.2.2.2, (h.cell (p := ⟨br, orr + 13, none⟩) (World.block_lt_of_cell? _ _ (hrw 13 (by omega)))).trans (hrw 13 (by omega)), (h.cell (p := ⟨br, orr + 14, none⟩) (World.block_lt_of_cell? _ _ (hrw 14 (by omega)))).trans (hrw 14 (by omega)), (h.cell (p := ⟨br, orr + 17, none⟩) (World.block_lt_of_cell? _ _ (hrw 17 (by omega)))).trans (hrw 17 (by omega)), (h.cell (p := ⟨br, orr + 18, none⟩) (World.block_lt_of_cell? _ _ (hrw 18 (by omega)))).trans (hrw 18 (by omega))⟩
 have l13 := llL H 13
 have l14 := llL H 14
 have l17 := llL H 17
 have l18 := llL H 18
 obtain ⟨I, hI⟩ : ∃ I : Int, I = ((L.length + 8 : Nat) : Int) := ⟨_, rfl⟩
 rw [<- hI]
 have f1 : ¬ I < (L.length : Int) := by omega
 have f2 : I - (L.length : Int) = 8 := by omega
 clear hI
 have HC0 : Hid (∀ W : World, W.cell? ⟨V, 0, none⟩ = some (.int .i64 p) -> Calls Tryz.prog 102 #[.pointer (some ⟨V, 0, none⟩), .int .i64 (zat r 13), .int .i64 (zat r 17), .int .i64 (zat r 14), .int .i64 (zat r 18), .bool false] W fun e w' => e = .returned (.int .i64 (ord1 p (zat r 13) (zat r 14))) /\ w' = W) := fun W h => worder_false p V _ _ _ _ W h3 h4 h (H.fr 13) (H.fr 17) (H.fr 14) (H.fr 18)
 have HB0 : Hid (Below w.heap.size w w) := Below.refl _ _
 obtain ⟨c0, c1, c2, c3, c4, c5, r13, r14, r17, r18⟩ := HX.out w HB0.out
 clear H hV hrw hnw e es hh1
 generalize (ord1 p (zat r 13) (zat r 14)) = t at *
 generalize zat r 13 = x13 at *
 generalize zat r 14 = x14 at *
 generalize zat r 17 = x17 at *
 generalize zat r 18 = x18 at *
 generalize r.length = lr at *
 generalize n.length = ln at *
 generalize L.length = nL at *
 go_enter Tryz.func66, Tryz.ntmps66
 go_wp2_with fail
 have QP := qpL c0
 go_quiet (first
  | (go_at_call 102; with_reducible exact Calls.quiet_of_same (HC0.out _ (QP.out _))))
 go_wp2_with fail
 go_ret
 exact ⟨rfl, below_drewN HB0.out _⟩
theorem wrule_9 (p V : Nat) (L : List InsZ) (size out : Int) (r n : List Int) (aL : Option Addr) (cL : Nat) (ar : Option Addr) (cr : Nat) (an : Option Addr) (cn : Nat) (w : World) (H : VF p L size out r n) (hV : WW p V L size out r n aL cL ar cr an cn w) :
  Calls Tryz.prog 66 #[.pointer (some ⟨V, 0, none⟩), .int .i64 ((L.length + 9 : Nat) : Int)] w fun e w' => e = .returned (.int .i64 (ord2 p (zat r 13) (zat r 17) (zat r 14) (zat r 18))) /\ Below w.heap.size w w' := by
 have h3 := H.h3
 have h4 := H.h4
 have e := em_I64 h3 h4
 have es := fun s f => (show I64 (smt p L s f) by have := smt_bd h3 L s f; unfold I64; omega)
 obtain ⟨br, orr, har, hrw⟩ := rowB_at hV.row H.hr
 subst har
 obtain ⟨bn, onn, han, hnw⟩ := rowB_at hV.nxt H.hn
 subst han
 have hh1 := H.h1
 have hl := H.hl
 have HX : Hid (∀ W, Below w.heap.size w W -> (W.cell? ⟨V, 0, none⟩ = some (.int .i64 p) /\ W.cell? ⟨V, 1, none⟩ = some (.int .i64 size) /\ W.cell? ⟨V, 2, none⟩ = some (.slice aL L.length cL) /\ W.cell? ⟨V, 3, none⟩ = some (.int .i64 out) /\ W.cell? ⟨V, 4, none⟩ = some (.slice (some ⟨br, orr, none⟩) r.length cr) /\ W.cell? ⟨V, 5, none⟩ = some (.slice (some ⟨bn, onn, none⟩) n.length cn) /\ W.cell? ⟨br, orr + 13, none⟩ = some (.int .i64 (zat r 13)) /\ W.cell? ⟨br, orr + 14, none⟩ = some (.int .i64 (zat r 14)) /\ W.cell? ⟨br, orr + 17, none⟩ = some (.int .i64 (zat r 17)) /\ W.cell? ⟨br, orr + 18, none⟩ = some (.int .i64 (zat r 18)))) := fun W h => by
  have hc := (hV.below h).cells
  exact ⟨hc.1, hc.2.1, hc.2.2.1, hc.2.2.2.1, hc.2.2.2.2.1, hc.2.2.2.2.2, (h.cell (p := ⟨br, orr + 13, none⟩) (World.block_lt_of_cell? _ _ (hrw 13 (by omega)))).trans (hrw 13 (by omega)), (h.cell (p := ⟨br, orr + 14, none⟩) (World.block_lt_of_cell? _ _ (hrw 14 (by omega)))).trans (hrw 14 (by omega)), (h.cell (p := ⟨br, orr + 17, none⟩) (World.block_lt_of_cell? _ _ (hrw 17 (by omega)))).trans (hrw 17 (by omega)), (h.cell (p := ⟨br, orr + 18, none⟩) (World.block_lt_of_cell? _ _ (hrw 18 (by omega)))).trans (hrw 18 (by omega))⟩
 have l13 := llL H 13
 have l14 := llL H 14
 have l17 := llL H 17
 have l18 := llL H 18
 obtain ⟨I, hI⟩ : ∃ I : Int, I = ((L.length + 9 : Nat) : Int) := ⟨_, rfl⟩
 rw [<- hI]
 have f1 : ¬ I < (L.length : Int) := by omega
 have f2 : I - (L.length : Int) = 9 := by omega
 clear hI
 have HC0 : Hid (∀ W : World, W.cell? ⟨V, 0, none⟩ = some (.int .i64 p) -> Calls Tryz.prog 102 #[.pointer (some ⟨V, 0, none⟩), .int .i64 (zat r 13), .int .i64 (zat r 17), .int .i64 (zat r 14), .int .i64 (zat r 18), .bool true] W fun e w' => e = .returned (.int .i64 (ord2 p (zat r 13) (zat r 17) (zat r 14) (zat r 18))) /\ w' = W) := fun W h => worder_true p V _ _ _ _ W h3 h4 h (H.fr 13) (H.fr 17) (H.fr 14) (H.fr 18)
 have HB0 : Hid (Below w.heap.size w w) := Below.refl _ _
 obtain ⟨c0, c1, c2, c3, c4, c5, r13, r14, r17, r18⟩ := HX.out w HB0.out
 clear H hV hrw hnw e es hh1
 generalize (ord2 p (zat r 13) (zat r 17) (zat r 14) (zat r 18)) = t at *
 generalize zat r 13 = x13 at *
 generalize zat r 14 = x14 at *
 generalize zat r 17 = x17 at *
 generalize zat r 18 = x18 at *
 generalize r.length = lr at *
 generalize n.length = ln at *
 generalize L.length = nL at *
 go_enter Tryz.func66, Tryz.ntmps66
 go_wp2_with fail
 have QP := qpL c0
 go_quiet (first
  | (go_at_call 102; with_reducible exact Calls.quiet_of_same (HC0.out _ (QP.out _))))
 go_wp2_with fail
 go_ret
 exact ⟨rfl, below_drewN HB0.out _⟩
theorem wrule_10 (p V : Nat) (L : List InsZ) (size out : Int) (r n : List Int) (aL : Option Addr) (cL : Nat) (ar : Option Addr) (cr : Nat) (an : Option Addr) (cn : Nat) (w : World) (H : VF p L size out r n) (hV : WW p V L size out r n aL cL ar cr an cn w) :
  Calls Tryz.prog 66 #[.pointer (some ⟨V, 0, none⟩), .int .i64 ((L.length + 10 : Nat) : Int)] w fun e w' => e = .returned (.int .i64 (ord1 p (zat r 14) (zat r 15))) /\ Below w.heap.size w w' := by
 have h3 := H.h3
 have h4 := H.h4
 have e := em_I64 h3 h4
 have es := fun s f => (show I64 (smt p L s f) by have := smt_bd h3 L s f; unfold I64; omega)
 obtain ⟨br, orr, har, hrw⟩ := rowB_at hV.row H.hr
 subst har
 obtain ⟨bn, onn, han, hnw⟩ := rowB_at hV.nxt H.hn
 subst han
 have hh1 := H.h1
 have hl := H.hl
 have HX : Hid (∀ W, Below w.heap.size w W -> (W.cell? ⟨V, 0, none⟩ = some (.int .i64 p) /\ W.cell? ⟨V, 1, none⟩ = some (.int .i64 size) /\ W.cell? ⟨V, 2, none⟩ = some (.slice aL L.length cL) /\ W.cell? ⟨V, 3, none⟩ = some (.int .i64 out) /\ W.cell? ⟨V, 4, none⟩ = some (.slice (some ⟨br, orr, none⟩) r.length cr) /\ W.cell? ⟨V, 5, none⟩ = some (.slice (some ⟨bn, onn, none⟩) n.length cn) /\ W.cell? ⟨br, orr + 14, none⟩ = some (.int .i64 (zat r 14)) /\ W.cell? ⟨br, orr + 15, none⟩ = some (.int .i64 (zat r 15)) /\ W.cell? ⟨br, orr + 18, none⟩ = some (.int .i64 (zat r 18)) /\ W.cell? ⟨br, orr + 19, none⟩ = some (.int .i64 (zat r 19)))) := fun W h => by
  have hc := (hV.below h).cells
  exact ⟨hc.1, hc.2.1, hc.2.2.1, hc.2.2.2.1, hc.2.2.2.2.1, hc.2.2.2.2.2, (h.cell (p := ⟨br, orr + 14, none⟩) (World.block_lt_of_cell? _ _ (hrw 14 (by omega)))).trans (hrw 14 (by omega)), (h.cell (p := ⟨br, orr + 15, none⟩) (World.block_lt_of_cell? _ _ (hrw 15 (by omega)))).trans (hrw 15 (by omega)), (h.cell (p := ⟨br, orr + 18, none⟩) (World.block_lt_of_cell? _ _ (hrw 18 (by omega)))).trans (hrw 18 (by omega)), (h.cell (p := ⟨br, orr + 19, none⟩) (World.block_lt_of_cell? _ _ (hrw 19 (by omega)))).trans (hrw 19 (by omega))⟩
 have l14 := llL H 14
 have l15 := llL H 15
 have l18 := llL H 18
 have l19 := llL H 19
 obtain ⟨I, hI⟩ : ∃ I : Int, I = ((L.length + 10 : Nat) : Int) := ⟨_, rfl⟩
 rw [<- hI]
 have f1 : ¬ I < (L.length : Int) := by omega
 have f2 : I - (L.length : Int) = 10 := by omega
 clear hI
 have HC0 : Hid (∀ W : World, W.cell? ⟨V, 0, none⟩ = some (.int .i64 p) -> Calls Tryz.prog 102 #[.pointer (some ⟨V, 0, none⟩), .int .i64 (zat r 14), .int .i64 (zat r 18), .int .i64 (zat r 15), .int .i64 (zat r 19), .bool false] W fun e w' => e = .returned (.int .i64 (ord1 p (zat r 14) (zat r 15))) /\ w' = W) := fun W h => worder_false p V _ _ _ _ W h3 h4 h (H.fr 14) (H.fr 18) (H.fr 15) (H.fr 19)
 have HB0 : Hid (Below w.heap.size w w) := Below.refl _ _
 obtain ⟨c0, c1, c2, c3, c4, c5, r14, r15, r18, r19⟩ := HX.out w HB0.out
 clear H hV hrw hnw e es hh1
 generalize (ord1 p (zat r 14) (zat r 15)) = t at *
 generalize zat r 14 = x14 at *
 generalize zat r 15 = x15 at *
 generalize zat r 18 = x18 at *
 generalize zat r 19 = x19 at *
 generalize r.length = lr at *
 generalize n.length = ln at *
 generalize L.length = nL at *
 go_enter Tryz.func66, Tryz.ntmps66
 go_wp2_with fail
 have QP := qpL c0
 go_quiet (first
  | (go_at_call 102; with_reducible exact Calls.quiet_of_same (HC0.out _ (QP.out _))))
 go_wp2_with fail
 go_ret
 exact ⟨rfl, below_drewN HB0.out _⟩
theorem wrule_11 (p V : Nat) (L : List InsZ) (size out : Int) (r n : List Int) (aL : Option Addr) (cL : Nat) (ar : Option Addr) (cr : Nat) (an : Option Addr) (cn : Nat) (w : World) (H : VF p L size out r n) (hV : WW p V L size out r n aL cL ar cr an cn w) :
  Calls Tryz.prog 66 #[.pointer (some ⟨V, 0, none⟩), .int .i64 ((L.length + 11 : Nat) : Int)] w fun e w' => e = .returned (.int .i64 (ord2 p (zat r 14) (zat r 18) (zat r 15) (zat r 19))) /\ Below w.heap.size w w' := by
 have h3 := H.h3
 have h4 := H.h4
 have e := em_I64 h3 h4
 have es := fun s f => (show I64 (smt p L s f) by have := smt_bd h3 L s f; unfold I64; omega)
 obtain ⟨br, orr, har, hrw⟩ := rowB_at hV.row H.hr
 subst har
 obtain ⟨bn, onn, han, hnw⟩ := rowB_at hV.nxt H.hn
 subst han
 have hh1 := H.h1
 have hl := H.hl
 have HX : Hid (∀ W, Below w.heap.size w W -> (W.cell? ⟨V, 0, none⟩ = some (.int .i64 p) /\ W.cell? ⟨V, 1, none⟩ = some (.int .i64 size) /\ W.cell? ⟨V, 2, none⟩ = some (.slice aL L.length cL) /\ W.cell? ⟨V, 3, none⟩ = some (.int .i64 out) /\ W.cell? ⟨V, 4, none⟩ = some (.slice (some ⟨br, orr, none⟩) r.length cr) /\ W.cell? ⟨V, 5, none⟩ = some (.slice (some ⟨bn, onn, none⟩) n.length cn) /\ W.cell? ⟨br, orr + 14, none⟩ = some (.int .i64 (zat r 14)) /\ W.cell? ⟨br, orr + 15, none⟩ = some (.int .i64 (zat r 15)) /\ W.cell? ⟨br, orr + 18, none⟩ = some (.int .i64 (zat r 18)) /\ W.cell? ⟨br, orr + 19, none⟩ = some (.int .i64 (zat r 19)))) := fun W h => by
  have hc := (hV.below h).cells
  exact ⟨hc.1, hc.2.1, hc.2.2.1, hc.2.2.2.1, hc.2.2.2.2.1, hc.2.2.2.2.2, (h.cell (p := ⟨br, orr + 14, none⟩) (World.block_lt_of_cell? _ _ (hrw 14 (by omega)))).trans (hrw 14 (by omega)), (h.cell (p := ⟨br, orr + 15, none⟩) (World.block_lt_of_cell? _ _ (hrw 15 (by omega)))).trans (hrw 15 (by omega)), (h.cell (p := ⟨br, orr + 18, none⟩) (World.block_lt_of_cell? _ _ (hrw 18 (by omega)))).trans (hrw 18 (by omega)), (h.cell (p := ⟨br, orr + 19, none⟩) (World.block_lt_of_cell? _ _ (hrw 19 (by omega)))).trans (hrw 19 (by omega))⟩
 have l14 := llL H 14
 have l15 := llL H 15
 have l18 := llL H 18
 have l19 := llL H 19
 obtain ⟨I, hI⟩ : ∃ I : Int, I = ((L.length + 11 : Nat) : Int) := ⟨_, rfl⟩
 rw [<- hI]
 have f1 : ¬ I < (L.length : Int) := by omega
 have f2 : I - (L.length : Int) = 11 := by omega
 clear hI
 have HC0 : Hid (∀ W : World, W.cell? ⟨V, 0, none⟩ = some (.int .i64 p) -> Calls Tryz.prog 102 #[.pointer (some ⟨V, 0, none⟩), .int .i64 (zat r 14), .int .i64 (zat r 18), .int .i64 (zat r 15), .int .i64 (zat r 19), .bool true] W fun e w' => e = .returned (.int .i64 (ord2 p (zat r 14) (zat r 18) (zat r 15) (zat r 19))) /\ w' = W) := fun W h => worder_true p V _ _ _ _ W h3 h4 h (H.fr 14) (H.fr 18) (H.fr 15) (H.fr 19)
 have HB0 : Hid (Below w.heap.size w w) := Below.refl _ _
 obtain ⟨c0, c1, c2, c3, c4, c5, r14, r15, r18, r19⟩ := HX.out w HB0.out
 clear H hV hrw hnw e es hh1
 generalize (ord2 p (zat r 14) (zat r 18) (zat r 15) (zat r 19)) = t at *
 generalize zat r 14 = x14 at *
 generalize zat r 15 = x15 at *
 generalize zat r 18 = x18 at *
 generalize zat r 19 = x19 at *
 generalize r.length = lr at *
 generalize n.length = ln at *
 generalize L.length = nL at *
 go_enter Tryz.func66, Tryz.ntmps66
 go_wp2_with fail
 have QP := qpL c0
 go_quiet (first
  | (go_at_call 102; with_reducible exact Calls.quiet_of_same (HC0.out _ (QP.out _))))
 go_wp2_with fail
 go_ret
 exact ⟨rfl, below_drewN HB0.out _⟩
theorem wrule_16 (p V : Nat) (L : List InsZ) (size out : Int) (r n : List Int) (aL : Option Addr) (cL : Nat) (ar : Option Addr) (cr : Nat) (an : Option Addr) (cn : Nat) (w : World) (H : VF p L size out r n) (hV : WW p V L size out r n aL cL ar cr an cn w) :
  Calls Tryz.prog 66 #[.pointer (some ⟨V, 0, none⟩), .int .i64 ((L.length + 16 : Nat) : Int)] w fun e w' => e = .returned (.int .i64 (ord1 p (zat r 15) (zat n 12))) /\ Below w.heap.size w w' := by
 have h3 := H.h3
 have h4 := H.h4
 have e := em_I64 h3 h4
 have es := fun s f => (show I64 (smt p L s f) by have := smt_bd h3 L s f; unfold I64; omega)
 obtain ⟨br, orr, har, hrw⟩ := rowB_at hV.row H.hr
 subst har
 obtain ⟨bn, onn, han, hnw⟩ := rowB_at hV.nxt H.hn
 subst han
 have hh1 := H.h1
 have hl := H.hl
 have HX : Hid (∀ W, Below w.heap.size w W -> (W.cell? ⟨V, 0, none⟩ = some (.int .i64 p) /\ W.cell? ⟨V, 1, none⟩ = some (.int .i64 size) /\ W.cell? ⟨V, 2, none⟩ = some (.slice aL L.length cL) /\ W.cell? ⟨V, 3, none⟩ = some (.int .i64 out) /\ W.cell? ⟨V, 4, none⟩ = some (.slice (some ⟨br, orr, none⟩) r.length cr) /\ W.cell? ⟨V, 5, none⟩ = some (.slice (some ⟨bn, onn, none⟩) n.length cn) /\ W.cell? ⟨br, orr + 15, none⟩ = some (.int .i64 (zat r 15)) /\ W.cell? ⟨br, orr + 19, none⟩ = some (.int .i64 (zat r 19)) /\ W.cell? ⟨bn, onn + 12, none⟩ = some (.int .i64 (zat n 12)) /\ W.cell? ⟨bn, onn + 16, none⟩ = some (.int .i64 (zat n 16)))) := fun W h => by
  have hc := (hV.below h).cells
  exact ⟨hc.1, hc.2.1, hc.2.2.1, hc.2.2.2.1, hc.2.2.2.2.1, hc.2.2.2.2.2, (h.cell (p := ⟨br, orr + 15, none⟩) (World.block_lt_of_cell? _ _ (hrw 15 (by omega)))).trans (hrw 15 (by omega)), (h.cell (p := ⟨br, orr + 19, none⟩) (World.block_lt_of_cell? _ _ (hrw 19 (by omega)))).trans (hrw 19 (by omega)), (h.cell (p := ⟨bn, onn + 12, none⟩) (World.block_lt_of_cell? _ _ (hnw 12 (by omega)))).trans (hnw 12 (by omega)), (h.cell (p := ⟨bn, onn + 16, none⟩) (World.block_lt_of_cell? _ _ (hnw 16 (by omega)))).trans (hnw 16 (by omega))⟩
 have l15 := llL H 15
 have l19 := llL H 19
 have m12 : (12 : Int) < (n.length : Int) := by have := H.hn; omega
 have m16 : (16 : Int) < (n.length : Int) := by have := H.hn; omega
 obtain ⟨I, hI⟩ : ∃ I : Int, I = ((L.length + 16 : Nat) : Int) := ⟨_, rfl⟩
 rw [<- hI]
 have f1 : ¬ I < (L.length : Int) := by omega
 have f2 : I - (L.length : Int) = 16 := by omega
 clear hI
 have HC0 : Hid (∀ W : World, W.cell? ⟨V, 0, none⟩ = some (.int .i64 p) -> Calls Tryz.prog 102 #[.pointer (some ⟨V, 0, none⟩), .int .i64 (zat r 15), .int .i64 (zat r 19), .int .i64 (zat n 12), .int .i64 (zat n 16), .bool false] W fun e w' => e = .returned (.int .i64 (ord1 p (zat r 15) (zat n 12))) /\ w' = W) := fun W h => worder_false p V _ _ _ _ W h3 h4 h (H.fr 15) (H.fr 19) (H.fn 12) (H.fn 16)
 have HB0 : Hid (Below w.heap.size w w) := Below.refl _ _
 obtain ⟨c0, c1, c2, c3, c4, c5, r15, r19, n12, n16⟩ := HX.out w HB0.out
 clear H hV hrw hnw e es hh1
 generalize (ord1 p (zat r 15) (zat n 12)) = t at *
 generalize zat r 15 = x15 at *
 generalize zat r 19 = x19 at *
 generalize zat n 12 = y12 at *
 generalize zat n 16 = y16 at *
 generalize r.length = lr at *
 generalize n.length = ln at *
 generalize L.length = nL at *
 go_enter Tryz.func66, Tryz.ntmps66
 go_wp2_with fail
 have QP := qpL c0
 go_quiet (first
  | (go_at_call 102; with_reducible exact Calls.quiet_of_same (HC0.out _ (QP.out _))))
 go_wp2_with fail
 go_ret
 exact ⟨rfl, below_drewN HB0.out _⟩
theorem wrule_17 (p V : Nat) (L : List InsZ) (size out : Int) (r n : List Int) (aL : Option Addr) (cL : Nat) (ar : Option Addr) (cr : Nat) (an : Option Addr) (cn : Nat) (w : World) (H : VF p L size out r n) (hV : WW p V L size out r n aL cL ar cr an cn w) :
  Calls Tryz.prog 66 #[.pointer (some ⟨V, 0, none⟩), .int .i64 ((L.length + 17 : Nat) : Int)] w fun e w' => e = .returned (.int .i64 (ord2 p (zat r 15) (zat r 19) (zat n 12) (zat n 16))) /\ Below w.heap.size w w' := by
 have h3 := H.h3
 have h4 := H.h4
 have e := em_I64 h3 h4
 have es := fun s f => (show I64 (smt p L s f) by have := smt_bd h3 L s f; unfold I64; omega)
 obtain ⟨br, orr, har, hrw⟩ := rowB_at hV.row H.hr
 subst har
 obtain ⟨bn, onn, han, hnw⟩ := rowB_at hV.nxt H.hn
 subst han
 have hh1 := H.h1
 have hl := H.hl
 have HX : Hid (∀ W, Below w.heap.size w W -> (W.cell? ⟨V, 0, none⟩ = some (.int .i64 p) /\ W.cell? ⟨V, 1, none⟩ = some (.int .i64 size) /\ W.cell? ⟨V, 2, none⟩ = some (.slice aL L.length cL) /\ W.cell? ⟨V, 3, none⟩ = some (.int .i64 out) /\ W.cell? ⟨V, 4, none⟩ = some (.slice (some ⟨br, orr, none⟩) r.length cr) /\ W.cell? ⟨V, 5, none⟩ = some (.slice (some ⟨bn, onn, none⟩) n.length cn) /\ W.cell? ⟨br, orr + 15, none⟩ = some (.int .i64 (zat r 15)) /\ W.cell? ⟨br, orr + 19, none⟩ = some (.int .i64 (zat r 19)) /\ W.cell? ⟨bn, onn + 12, none⟩ = some (.int .i64 (zat n 12)) /\ W.cell? ⟨bn, onn + 16, none⟩ = some (.int .i64 (zat n 16)))) := fun W h => by
  have hc := (hV.below h).cells
  exact ⟨hc.1, hc.2.1, hc.2.2.1, hc.2.2.2.1, hc.2.2.2.2.1, hc.2.2.2.2.2, (h.cell (p := ⟨br, orr + 15, none⟩) (World.block_lt_of_cell? _ _ (hrw 15 (by omega)))).trans (hrw 15 (by omega)), (h.cell (p := ⟨br, orr + 19, none⟩) (World.block_lt_of_cell? _ _ (hrw 19 (by omega)))).trans (hrw 19 (by omega)), (h.cell (p := ⟨bn, onn + 12, none⟩) (World.block_lt_of_cell? _ _ (hnw 12 (by omega)))).trans (hnw 12 (by omega)), (h.cell (p := ⟨bn, onn + 16, none⟩) (World.block_lt_of_cell? _ _ (hnw 16 (by omega)))).trans (hnw 16 (by omega))⟩
 have l15 := llL H 15
 have l19 := llL H 19
 have m12 : (12 : Int) < (n.length : Int) := by have := H.hn; omega
 have m16 : (16 : Int) < (n.length : Int) := by have := H.hn; omega
 obtain ⟨I, hI⟩ : ∃ I : Int, I = ((L.length + 17 : Nat) : Int) := ⟨_, rfl⟩
 rw [<- hI]
 have f1 : ¬ I < (L.length : Int) := by omega
 have f2 : I - (L.length : Int) = 17 := by omega
 clear hI
 have HC0 : Hid (∀ W : World, W.cell? ⟨V, 0, none⟩ = some (.int .i64 p) -> Calls Tryz.prog 102 #[.pointer (some ⟨V, 0, none⟩), .int .i64 (zat r 15), .int .i64 (zat r 19), .int .i64 (zat n 12), .int .i64 (zat n 16), .bool true] W fun e w' => e = .returned (.int .i64 (ord2 p (zat r 15) (zat r 19) (zat n 12) (zat n 16))) /\ w' = W) := fun W h => worder_true p V _ _ _ _ W h3 h4 h (H.fr 15) (H.fr 19) (H.fn 12) (H.fn 16)
 have HB0 : Hid (Below w.heap.size w w) := Below.refl _ _
 obtain ⟨c0, c1, c2, c3, c4, c5, r15, r19, n12, n16⟩ := HX.out w HB0.out
 clear H hV hrw hnw e es hh1
 generalize (ord2 p (zat r 15) (zat r 19) (zat n 12) (zat n 16)) = t at *
 generalize zat r 15 = x15 at *
 generalize zat r 19 = x19 at *
 generalize zat n 12 = y12 at *
 generalize zat n 16 = y16 at *
 generalize r.length = lr at *
 generalize n.length = ln at *
 generalize L.length = nL at *
 go_enter Tryz.func66, Tryz.ntmps66
 go_wp2_with fail
 have QP := qpL c0
 go_quiet (first
  | (go_at_call 102; with_reducible exact Calls.quiet_of_same (HC0.out _ (QP.out _))))
 go_wp2_with fail
 go_ret
 exact ⟨rfl, below_drewN HB0.out _⟩
theorem wrule_18 (p V : Nat) (L : List InsZ) (size out : Int) (r n : List Int) (aL : Option Addr) (cL : Nat) (ar : Option Addr) (cr : Nat) (an : Option Addr) (cn : Nat) (w : World) (H : VF p L size out r n) (hV : WW p V L size out r n aL cL ar cr an cn w) :
  Calls Tryz.prog 66 #[.pointer (some ⟨V, 0, none⟩), .int .i64 ((L.length + 18 : Nat) : Int)] w fun e w' => e = .returned (.int .i64 ((zat r 20 - 1) % (p : Int))) /\ Below w.heap.size w w' := by
 have h3 := H.h3
 have h4 := H.h4
 have e := em_I64 h3 h4
 have es := fun s f => (show I64 (smt p L s f) by have := smt_bd h3 L s f; unfold I64; omega)
 obtain ⟨br, orr, har, hrw⟩ := rowB_at hV.row H.hr
 subst har
 obtain ⟨bn, onn, han, hnw⟩ := rowB_at hV.nxt H.hn
 subst han
 have hh1 := H.h1
 have hl := H.hl
 have HX : Hid (∀ W, Below w.heap.size w W -> (W.cell? ⟨V, 0, none⟩ = some (.int .i64 p) /\ W.cell? ⟨V, 1, none⟩ = some (.int .i64 size) /\ W.cell? ⟨V, 2, none⟩ = some (.slice aL L.length cL) /\ W.cell? ⟨V, 3, none⟩ = some (.int .i64 out) /\ W.cell? ⟨V, 4, none⟩ = some (.slice (some ⟨br, orr, none⟩) r.length cr) /\ W.cell? ⟨V, 5, none⟩ = some (.slice (some ⟨bn, onn, none⟩) n.length cn))) := fun W h => by
  have hc := (hV.below h).cells
  exact ⟨hc.1, hc.2.1, hc.2.2.1, hc.2.2.2.1, hc.2.2.2.2.1, hc.2.2.2.2.2⟩
 obtain ⟨I, hI⟩ : ∃ I : Int, I = ((L.length + 18 : Nat) : Int) := ⟨_, rfl⟩
 rw [<- hI]
 have f1 : ¬ I < (L.length : Int) := by omega
 have f2 : I - (L.length : Int) = 18 := by omega
 clear hI
 have HC0 : Hid (∀ W, Below w.heap.size w W -> Calls Tryz.prog 103 #[.pointer (some ⟨V, 0, none⟩), .int .i64 18] W fun e w' => e = .returned (.int .i64 ((zat r 20 - 1) % (p : Int))) /\ Below W.heap.size W w') := fun W h => wedge_18 p V L size out r n aL cL (some ⟨br, orr, none⟩) cr (some ⟨bn, onn, none⟩) cn W H (hV.below h)
 have HB0 : Hid (Below w.heap.size w w) := Below.refl _ _
 obtain ⟨c0, c1, c2, c3, c4, c5⟩ := HX.out w HB0.out
 clear H hV hrw hnw e es hh1
 generalize ((zat r 20 - 1) % (p : Int)) = t at *
 generalize r.length = lr at *
 generalize n.length = ln at *
 generalize L.length = nL at *
 go_enter Tryz.func66, Tryz.ntmps66
 go_wp2_with fail
 refine (HC0.out _ HB0.out).mono ?_
 rintro e w1 ⟨rfl, hb⟩
 have HB1 := hid (HB0.out.trans (hb.mono HB0.out.size))
 clear hb c0 c1 c2 c3 c4 c5
 obtain ⟨c0, c1, c2, c3, c4, c5⟩ := HX.out w1 HB1.out
 go_wp2_with fail
 go_ret
 exact ⟨rfl, HB1.out⟩
theorem wrule_19 (p V : Nat) (L : List InsZ) (size out : Int) (r n : List Int) (aL : Option Addr) (cL : Nat) (ar : Option Addr) (cr : Nat) (an : Option Addr) (cn : Nat) (w : World) (H : VF p L size out r n) (hV : WW p V L size out r n aL cL ar cr an cn w) :
  Calls Tryz.prog 66 #[.pointer (some ⟨V, 0, none⟩), .int .i64 ((L.length + 19 : Nat) : Int)] w fun e w' => e = .returned (.int .i64 ((zat r 0 - 1) % (p : Int))) /\ Below w.heap.size w w' := by
 have h3 := H.h3
 have h4 := H.h4
 have e := em_I64 h3 h4
 have es := fun s f => (show I64 (smt p L s f) by have := smt_bd h3 L s f; unfold I64; omega)
 obtain ⟨br, orr, har, hrw⟩ := rowB_at hV.row H.hr
 subst har
 obtain ⟨bn, onn, han, hnw⟩ := rowB_at hV.nxt H.hn
 subst han
 have hh1 := H.h1
 have hl := H.hl
 have HX : Hid (∀ W, Below w.heap.size w W -> (W.cell? ⟨V, 0, none⟩ = some (.int .i64 p) /\ W.cell? ⟨V, 1, none⟩ = some (.int .i64 size) /\ W.cell? ⟨V, 2, none⟩ = some (.slice aL L.length cL) /\ W.cell? ⟨V, 3, none⟩ = some (.int .i64 out) /\ W.cell? ⟨V, 4, none⟩ = some (.slice (some ⟨br, orr, none⟩) r.length cr) /\ W.cell? ⟨V, 5, none⟩ = some (.slice (some ⟨bn, onn, none⟩) n.length cn))) := fun W h => by
  have hc := (hV.below h).cells
  exact ⟨hc.1, hc.2.1, hc.2.2.1, hc.2.2.2.1, hc.2.2.2.2.1, hc.2.2.2.2.2⟩
 obtain ⟨I, hI⟩ : ∃ I : Int, I = ((L.length + 19 : Nat) : Int) := ⟨_, rfl⟩
 rw [<- hI]
 have f1 : ¬ I < (L.length : Int) := by omega
 have f2 : I - (L.length : Int) = 19 := by omega
 clear hI
 have HC0 : Hid (∀ W, Below w.heap.size w W -> Calls Tryz.prog 103 #[.pointer (some ⟨V, 0, none⟩), .int .i64 19] W fun e w' => e = .returned (.int .i64 ((zat r 0 - 1) % (p : Int))) /\ Below W.heap.size W w') := fun W h => wedge_19 p V L size out r n aL cL (some ⟨br, orr, none⟩) cr (some ⟨bn, onn, none⟩) cn W H (hV.below h)
 have HB0 : Hid (Below w.heap.size w w) := Below.refl _ _
 obtain ⟨c0, c1, c2, c3, c4, c5⟩ := HX.out w HB0.out
 clear H hV hrw hnw e es hh1
 generalize ((zat r 0 - 1) % (p : Int)) = t at *
 generalize r.length = lr at *
 generalize n.length = ln at *
 generalize L.length = nL at *
 go_enter Tryz.func66, Tryz.ntmps66
 go_wp2_with fail
 refine (HC0.out _ HB0.out).mono ?_
 rintro e w1 ⟨rfl, hb⟩
 have HB1 := hid (HB0.out.trans (hb.mono HB0.out.size))
 clear hb c0 c1 c2 c3 c4 c5
 obtain ⟨c0, c1, c2, c3, c4, c5⟩ := HX.out w1 HB1.out
 go_wp2_with fail
 go_ret
 exact ⟨rfl, HB1.out⟩
theorem wrule_20 (p V : Nat) (L : List InsZ) (size out : Int) (r n : List Int) (aL : Option Addr) (cL : Nat) (ar : Option Addr) (cr : Nat) (an : Option Addr) (cn : Nat) (w : World) (H : VF p L size out r n) (hV : WW p V L size out r n aL cL ar cr an cn w) :
  Calls Tryz.prog 66 #[.pointer (some ⟨V, 0, none⟩), .int .i64 ((L.length + 20 : Nat) : Int)] w fun e w' => e = .returned (.int .i64 ((zat r 1 - 1 - size) % (p : Int))) /\ Below w.heap.size w w' := by
 have h3 := H.h3
 have h4 := H.h4
 have e := em_I64 h3 h4
 have es := fun s f => (show I64 (smt p L s f) by have := smt_bd h3 L s f; unfold I64; omega)
 obtain ⟨br, orr, har, hrw⟩ := rowB_at hV.row H.hr
 subst har
 obtain ⟨bn, onn, han, hnw⟩ := rowB_at hV.nxt H.hn
 subst han
 have hh1 := H.h1
 have hl := H.hl
 have HX : Hid (∀ W, Below w.heap.size w W -> (W.cell? ⟨V, 0, none⟩ = some (.int .i64 p) /\ W.cell? ⟨V, 1, none⟩ = some (.int .i64 size) /\ W.cell? ⟨V, 2, none⟩ = some (.slice aL L.length cL) /\ W.cell? ⟨V, 3, none⟩ = some (.int .i64 out) /\ W.cell? ⟨V, 4, none⟩ = some (.slice (some ⟨br, orr, none⟩) r.length cr) /\ W.cell? ⟨V, 5, none⟩ = some (.slice (some ⟨bn, onn, none⟩) n.length cn))) := fun W h => by
  have hc := (hV.below h).cells
  exact ⟨hc.1, hc.2.1, hc.2.2.1, hc.2.2.2.1, hc.2.2.2.2.1, hc.2.2.2.2.2⟩
 obtain ⟨I, hI⟩ : ∃ I : Int, I = ((L.length + 20 : Nat) : Int) := ⟨_, rfl⟩
 rw [<- hI]
 have f1 : ¬ I < (L.length : Int) := by omega
 have f2 : I - (L.length : Int) = 20 := by omega
 clear hI
 have HC0 : Hid (∀ W, Below w.heap.size w W -> Calls Tryz.prog 103 #[.pointer (some ⟨V, 0, none⟩), .int .i64 20] W fun e w' => e = .returned (.int .i64 ((zat r 1 - 1 - size) % (p : Int))) /\ Below W.heap.size W w') := fun W h => wedge_20 p V L size out r n aL cL (some ⟨br, orr, none⟩) cr (some ⟨bn, onn, none⟩) cn W H (hV.below h)
 have HB0 : Hid (Below w.heap.size w w) := Below.refl _ _
 obtain ⟨c0, c1, c2, c3, c4, c5⟩ := HX.out w HB0.out
 clear H hV hrw hnw e es hh1
 generalize ((zat r 1 - 1 - size) % (p : Int)) = t at *
 generalize r.length = lr at *
 generalize n.length = ln at *
 generalize L.length = nL at *
 go_enter Tryz.func66, Tryz.ntmps66
 go_wp2_with fail
 refine (HC0.out _ HB0.out).mono ?_
 rintro e w1 ⟨rfl, hb⟩
 have HB1 := hid (HB0.out.trans (hb.mono HB0.out.size))
 clear hb c0 c1 c2 c3 c4 c5
 obtain ⟨c0, c1, c2, c3, c4, c5⟩ := HX.out w1 HB1.out
 go_wp2_with fail
 go_ret
 exact ⟨rfl, HB1.out⟩
theorem wrule_21 (p V : Nat) (L : List InsZ) (size out : Int) (r n : List Int) (aL : Option Addr) (cL : Nat) (ar : Option Addr) (cr : Nat) (an : Option Addr) (cn : Nat) (w : World) (H : VF p L size out r n) (hV : WW p V L size out r n aL cL ar cr an cn w) :
  Calls Tryz.prog 66 #[.pointer (some ⟨V, 0, none⟩), .int .i64 ((L.length + 21 : Nat) : Int)] w fun e w' => e = .returned (.int .i64 (zat r 2 % (p : Int))) /\ Below w.heap.size w w' := by
 have h3 := H.h3
 have h4 := H.h4
 have e := em_I64 h3 h4
 have es := fun s f => (show I64 (smt p L s f) by have := smt_bd h3 L s f; unfold I64; omega)
 obtain ⟨br, orr, har, hrw⟩ := rowB_at hV.row H.hr
 subst har
 obtain ⟨bn, onn, han, hnw⟩ := rowB_at hV.nxt H.hn
 subst han
 have hh1 := H.h1
 have hl := H.hl
 have HX : Hid (∀ W, Below w.heap.size w W -> (W.cell? ⟨V, 0, none⟩ = some (.int .i64 p) /\ W.cell? ⟨V, 1, none⟩ = some (.int .i64 size) /\ W.cell? ⟨V, 2, none⟩ = some (.slice aL L.length cL) /\ W.cell? ⟨V, 3, none⟩ = some (.int .i64 out) /\ W.cell? ⟨V, 4, none⟩ = some (.slice (some ⟨br, orr, none⟩) r.length cr) /\ W.cell? ⟨V, 5, none⟩ = some (.slice (some ⟨bn, onn, none⟩) n.length cn))) := fun W h => by
  have hc := (hV.below h).cells
  exact ⟨hc.1, hc.2.1, hc.2.2.1, hc.2.2.2.1, hc.2.2.2.2.1, hc.2.2.2.2.2⟩
 obtain ⟨I, hI⟩ : ∃ I : Int, I = ((L.length + 21 : Nat) : Int) := ⟨_, rfl⟩
 rw [<- hI]
 have f1 : ¬ I < (L.length : Int) := by omega
 have f2 : I - (L.length : Int) = 21 := by omega
 clear hI
 have HC0 : Hid (∀ W, Below w.heap.size w W -> Calls Tryz.prog 103 #[.pointer (some ⟨V, 0, none⟩), .int .i64 21] W fun e w' => e = .returned (.int .i64 (zat r 2 % (p : Int))) /\ Below W.heap.size W w') := fun W h => wedge_21 p V L size out r n aL cL (some ⟨br, orr, none⟩) cr (some ⟨bn, onn, none⟩) cn W H (hV.below h)
 have HB0 : Hid (Below w.heap.size w w) := Below.refl _ _
 obtain ⟨c0, c1, c2, c3, c4, c5⟩ := HX.out w HB0.out
 clear H hV hrw hnw e es hh1
 generalize (zat r 2 % (p : Int)) = t at *
 generalize r.length = lr at *
 generalize n.length = ln at *
 generalize L.length = nL at *
 go_enter Tryz.func66, Tryz.ntmps66
 go_wp2_with fail
 refine (HC0.out _ HB0.out).mono ?_
 rintro e w1 ⟨rfl, hb⟩
 have HB1 := hid (HB0.out.trans (hb.mono HB0.out.size))
 clear hb c0 c1 c2 c3 c4 c5
 obtain ⟨c0, c1, c2, c3, c4, c5⟩ := HX.out w1 HB1.out
 go_wp2_with fail
 go_ret
 exact ⟨rfl, HB1.out⟩
theorem wrule_22 (p V : Nat) (L : List InsZ) (size out : Int) (r n : List Int) (aL : Option Addr) (cL : Nat) (ar : Option Addr) (cr : Nat) (an : Option Addr) (cn : Nat) (w : World) (H : VF p L size out r n) (hV : WW p V L size out r n aL cL ar cr an cn w) :
  Calls Tryz.prog 66 #[.pointer (some ⟨V, 0, none⟩), .int .i64 ((L.length + 22 : Nat) : Int)] w fun e w' => e = .returned (.int .i64 (zat r 12 % (p : Int))) /\ Below w.heap.size w w' := by
 have h3 := H.h3
 have h4 := H.h4
 have e := em_I64 h3 h4
 have es := fun s f => (show I64 (smt p L s f) by have := smt_bd h3 L s f; unfold I64; omega)
 obtain ⟨br, orr, har, hrw⟩ := rowB_at hV.row H.hr
 subst har
 obtain ⟨bn, onn, han, hnw⟩ := rowB_at hV.nxt H.hn
 subst han
 have hh1 := H.h1
 have hl := H.hl
 have HX : Hid (∀ W, Below w.heap.size w W -> (W.cell? ⟨V, 0, none⟩ = some (.int .i64 p) /\ W.cell? ⟨V, 1, none⟩ = some (.int .i64 size) /\ W.cell? ⟨V, 2, none⟩ = some (.slice aL L.length cL) /\ W.cell? ⟨V, 3, none⟩ = some (.int .i64 out) /\ W.cell? ⟨V, 4, none⟩ = some (.slice (some ⟨br, orr, none⟩) r.length cr) /\ W.cell? ⟨V, 5, none⟩ = some (.slice (some ⟨bn, onn, none⟩) n.length cn))) := fun W h => by
  have hc := (hV.below h).cells
  exact ⟨hc.1, hc.2.1, hc.2.2.1, hc.2.2.2.1, hc.2.2.2.2.1, hc.2.2.2.2.2⟩
 obtain ⟨I, hI⟩ : ∃ I : Int, I = ((L.length + 22 : Nat) : Int) := ⟨_, rfl⟩
 rw [<- hI]
 have f1 : ¬ I < (L.length : Int) := by omega
 have f2 : I - (L.length : Int) = 22 := by omega
 clear hI
 have HC0 : Hid (∀ W, Below w.heap.size w W -> Calls Tryz.prog 103 #[.pointer (some ⟨V, 0, none⟩), .int .i64 22] W fun e w' => e = .returned (.int .i64 (zat r 12 % (p : Int))) /\ Below W.heap.size W w') := fun W h => wedge_22 p V L size out r n aL cL (some ⟨br, orr, none⟩) cr (some ⟨bn, onn, none⟩) cn W H (hV.below h)
 have HB0 : Hid (Below w.heap.size w w) := Below.refl _ _
 obtain ⟨c0, c1, c2, c3, c4, c5⟩ := HX.out w HB0.out
 clear H hV hrw hnw e es hh1
 generalize (zat r 12 % (p : Int)) = t at *
 generalize r.length = lr at *
 generalize n.length = ln at *
 generalize L.length = nL at *
 go_enter Tryz.func66, Tryz.ntmps66
 go_wp2_with fail
 refine (HC0.out _ HB0.out).mono ?_
 rintro e w1 ⟨rfl, hb⟩
 have HB1 := hid (HB0.out.trans (hb.mono HB0.out.size))
 clear hb c0 c1 c2 c3 c4 c5
 obtain ⟨c0, c1, c2, c3, c4, c5⟩ := HX.out w1 HB1.out
 go_wp2_with fail
 go_ret
 exact ⟨rfl, HB1.out⟩
theorem wrule_23 (p V : Nat) (L : List InsZ) (size out : Int) (r n : List Int) (aL : Option Addr) (cL : Nat) (ar : Option Addr) (cr : Nat) (an : Option Addr) (cn : Nat) (w : World) (H : VF p L size out r n) (hV : WW p V L size out r n aL cL ar cr an cn w) :
  Calls Tryz.prog 66 #[.pointer (some ⟨V, 0, none⟩), .int .i64 ((L.length + 23 : Nat) : Int)] w fun e w' => e = .returned (.int .i64 (zat r 16 % (p : Int))) /\ Below w.heap.size w w' := by
 have h3 := H.h3
 have h4 := H.h4
 have e := em_I64 h3 h4
 have es := fun s f => (show I64 (smt p L s f) by have := smt_bd h3 L s f; unfold I64; omega)
 obtain ⟨br, orr, har, hrw⟩ := rowB_at hV.row H.hr
 subst har
 obtain ⟨bn, onn, han, hnw⟩ := rowB_at hV.nxt H.hn
 subst han
 have hh1 := H.h1
 have hl := H.hl
 have HX : Hid (∀ W, Below w.heap.size w W -> (W.cell? ⟨V, 0, none⟩ = some (.int .i64 p) /\ W.cell? ⟨V, 1, none⟩ = some (.int .i64 size) /\ W.cell? ⟨V, 2, none⟩ = some (.slice aL L.length cL) /\ W.cell? ⟨V, 3, none⟩ = some (.int .i64 out) /\ W.cell? ⟨V, 4, none⟩ = some (.slice (some ⟨br, orr, none⟩) r.length cr) /\ W.cell? ⟨V, 5, none⟩ = some (.slice (some ⟨bn, onn, none⟩) n.length cn))) := fun W h => by
  have hc := (hV.below h).cells
  exact ⟨hc.1, hc.2.1, hc.2.2.1, hc.2.2.2.1, hc.2.2.2.2.1, hc.2.2.2.2.2⟩
 obtain ⟨I, hI⟩ : ∃ I : Int, I = ((L.length + 23 : Nat) : Int) := ⟨_, rfl⟩
 rw [<- hI]
 have f1 : ¬ I < (L.length : Int) := by omega
 have f2 : I - (L.length : Int) = 23 := by omega
 clear hI
 have HC0 : Hid (∀ W, Below w.heap.size w W -> Calls Tryz.prog 103 #[.pointer (some ⟨V, 0, none⟩), .int .i64 23] W fun e w' => e = .returned (.int .i64 (zat r 16 % (p : Int))) /\ Below W.heap.size W w') := fun W h => wedge_23 p V L size out r n aL cL (some ⟨br, orr, none⟩) cr (some ⟨bn, onn, none⟩) cn W H (hV.below h)
 have HB0 : Hid (Below w.heap.size w w) := Below.refl _ _
 obtain ⟨c0, c1, c2, c3, c4, c5⟩ := HX.out w HB0.out
 clear H hV hrw hnw e es hh1
 generalize (zat r 16 % (p : Int)) = t at *
 generalize r.length = lr at *
 generalize n.length = ln at *
 generalize L.length = nL at *
 go_enter Tryz.func66, Tryz.ntmps66
 go_wp2_with fail
 refine (HC0.out _ HB0.out).mono ?_
 rintro e w1 ⟨rfl, hb⟩
 have HB1 := hid (HB0.out.trans (hb.mono HB0.out.size))
 clear hb c0 c1 c2 c3 c4 c5
 obtain ⟨c0, c1, c2, c3, c4, c5⟩ := HX.out w1 HB1.out
 go_wp2_with fail
 go_ret
 exact ⟨rfl, HB1.out⟩
theorem wrule_24 (p V : Nat) (L : List InsZ) (size out : Int) (r n : List Int) (aL : Option Addr) (cL : Nat) (ar : Option Addr) (cr : Nat) (an : Option Addr) (cn : Nat) (w : World) (H : VF p L size out r n) (hV : WW p V L size out r n aL cL ar cr an cn w) :
  Calls Tryz.prog 66 #[.pointer (some ⟨V, 0, none⟩), .int .i64 ((L.length + 24 : Nat) : Int)] w fun e w' => e = .returned (.int .i64 ((smt p L r (fun _ => tvH) - 1) % (p : Int))) /\ Below w.heap.size w w' := by
 have h3 := H.h3
 have h4 := H.h4
 have e := em_I64 h3 h4
 have es := fun s f => (show I64 (smt p L s f) by have := smt_bd h3 L s f; unfold I64; omega)
 obtain ⟨br, orr, har, hrw⟩ := rowB_at hV.row H.hr
 subst har
 obtain ⟨bn, onn, han, hnw⟩ := rowB_at hV.nxt H.hn
 subst han
 have hh1 := H.h1
 have hl := H.hl
 have HX : Hid (∀ W, Below w.heap.size w W -> (W.cell? ⟨V, 0, none⟩ = some (.int .i64 p) /\ W.cell? ⟨V, 1, none⟩ = some (.int .i64 size) /\ W.cell? ⟨V, 2, none⟩ = some (.slice aL L.length cL) /\ W.cell? ⟨V, 3, none⟩ = some (.int .i64 out) /\ W.cell? ⟨V, 4, none⟩ = some (.slice (some ⟨br, orr, none⟩) r.length cr) /\ W.cell? ⟨V, 5, none⟩ = some (.slice (some ⟨bn, onn, none⟩) n.length cn))) := fun W h => by
  have hc := (hV.below h).cells
  exact ⟨hc.1, hc.2.1, hc.2.2.1, hc.2.2.2.1, hc.2.2.2.2.1, hc.2.2.2.2.2⟩
 obtain ⟨I, hI⟩ : ∃ I : Int, I = ((L.length + 24 : Nat) : Int) := ⟨_, rfl⟩
 rw [<- hI]
 have f1 : ¬ I < (L.length : Int) := by omega
 have f2 : I - (L.length : Int) = 24 := by omega
 clear hI
 have HC0 : Hid (∀ W, Below w.heap.size w W -> Calls Tryz.prog 103 #[.pointer (some ⟨V, 0, none⟩), .int .i64 24] W fun e w' => e = .returned (.int .i64 ((smt p L r (fun _ => tvH) - 1) % (p : Int))) /\ Below W.heap.size W w') := fun W h => wedge_24 p V L size out r n aL cL (some ⟨br, orr, none⟩) cr (some ⟨bn, onn, none⟩) cn W H (hV.below h)
 have HB0 : Hid (Below w.heap.size w w) := Below.refl _ _
 obtain ⟨c0, c1, c2, c3, c4, c5⟩ := HX.out w HB0.out
 clear H hV hrw hnw e es hh1
 generalize ((smt p L r (fun _ => tvH) - 1) % (p : Int)) = t at *
 generalize r.length = lr at *
 generalize n.length = ln at *
 generalize L.length = nL at *
 go_enter Tryz.func66, Tryz.ntmps66
 go_wp2_with fail
 refine (HC0.out _ HB0.out).mono ?_
 rintro e w1 ⟨rfl, hb⟩
 have HB1 := hid (HB0.out.trans (hb.mono HB0.out.size))
 clear hb c0 c1 c2 c3 c4 c5
 obtain ⟨c0, c1, c2, c3, c4, c5⟩ := HX.out w1 HB1.out
 go_wp2_with fail
 go_ret
 exact ⟨rfl, HB1.out⟩
theorem wrule_25 (p V : Nat) (L : List InsZ) (size out : Int) (r n : List Int) (aL : Option Addr) (cL : Nat) (ar : Option Addr) (cr : Nat) (an : Option Addr) (cn : Nat) (w : World) (H : VF p L size out r n) (hV : WW p V L size out r n aL cL ar cr an cn w) :
  Calls Tryz.prog 66 #[.pointer (some ⟨V, 0, none⟩), .int .i64 ((L.length + 25 : Nat) : Int)] w fun e w' => e = .returned (.int .i64 ((zat r 7 - out) % (p : Int))) /\ Below w.heap.size w w' := by
 have h3 := H.h3
 have h4 := H.h4
 have e := em_I64 h3 h4
 have es := fun s f => (show I64 (smt p L s f) by have := smt_bd h3 L s f; unfold I64; omega)
 obtain ⟨br, orr, har, hrw⟩ := rowB_at hV.row H.hr
 subst har
 obtain ⟨bn, onn, han, hnw⟩ := rowB_at hV.nxt H.hn
 subst han
 have hh1 := H.h1
 have hl := H.hl
 have HX : Hid (∀ W, Below w.heap.size w W -> (W.cell? ⟨V, 0, none⟩ = some (.int .i64 p) /\ W.cell? ⟨V, 1, none⟩ = some (.int .i64 size) /\ W.cell? ⟨V, 2, none⟩ = some (.slice aL L.length cL) /\ W.cell? ⟨V, 3, none⟩ = some (.int .i64 out) /\ W.cell? ⟨V, 4, none⟩ = some (.slice (some ⟨br, orr, none⟩) r.length cr) /\ W.cell? ⟨V, 5, none⟩ = some (.slice (some ⟨bn, onn, none⟩) n.length cn))) := fun W h => by
  have hc := (hV.below h).cells
  exact ⟨hc.1, hc.2.1, hc.2.2.1, hc.2.2.2.1, hc.2.2.2.2.1, hc.2.2.2.2.2⟩
 obtain ⟨I, hI⟩ : ∃ I : Int, I = ((L.length + 25 : Nat) : Int) := ⟨_, rfl⟩
 rw [<- hI]
 have f1 : ¬ I < (L.length : Int) := by omega
 have f2 : I - (L.length : Int) = 25 := by omega
 clear hI
 have HC0 : Hid (∀ W, Below w.heap.size w W -> Calls Tryz.prog 103 #[.pointer (some ⟨V, 0, none⟩), .int .i64 25] W fun e w' => e = .returned (.int .i64 ((zat r 7 - out) % (p : Int))) /\ Below W.heap.size W w') := fun W h => wedge_25 p V L size out r n aL cL (some ⟨br, orr, none⟩) cr (some ⟨bn, onn, none⟩) cn W H (hV.below h)
 have HB0 : Hid (Below w.heap.size w w) := Below.refl _ _
 obtain ⟨c0, c1, c2, c3, c4, c5⟩ := HX.out w HB0.out
 clear H hV hrw hnw e es hh1
 generalize ((zat r 7 - out) % (p : Int)) = t at *
 generalize r.length = lr at *
 generalize n.length = ln at *
 generalize L.length = nL at *
 go_enter Tryz.func66, Tryz.ntmps66
 go_wp2_with fail
 refine (HC0.out _ HB0.out).mono ?_
 rintro e w1 ⟨rfl, hb⟩
 have HB1 := hid (HB0.out.trans (hb.mono HB0.out.size))
 clear hb c0 c1 c2 c3 c4 c5
 obtain ⟨c0, c1, c2, c3, c4, c5⟩ := HX.out w1 HB1.out
 go_wp2_with fail
 go_ret
 exact ⟨rfl, HB1.out⟩
theorem wrule_low (p V : Nat) (L : List InsZ) (size out : Int) (r n : List Int) (aL : Option Addr) (cL : Nat) (ar : Option Addr) (cr : Nat) (an : Option Addr) (cn : Nat) (w : World) (H : VF p L size out r n) (hV : WW p V L size out r n aL cL ar cr an cn w) (i : Nat) (hi : i < L.length) :
  Calls Tryz.prog 66 #[.pointer (some ⟨V, 0, none⟩), .int .i64 (i : Int)] w fun e w' => e = .returned (.int .i64 (chz p r i)) /\ Below w.heap.size w w' := by
 have h3 := H.h3
 have h4 := H.h4
 have hl := H.hl
 obtain ⟨br, orr, har, hrw⟩ := rowB_at hV.row H.hr
 subst har
 obtain ⟨m, hm⟩ := exE (20 + i)
 have em : 20 + (i : Int) = (m : Int) := by omega
 have wm : IntKind.i64.wrap (m : Int) = (m : Int) := by rw [IntKind.wrap_i64]; omega
 have lm : (m : Int) < (r.length : Int) := by have := H.hr; omega
 have li : (i : Int) < (L.length : Int) := by omega
 obtain ⟨c0, c1, c2, c3, c4, c5⟩ := hV.cells
 have cm := hrw m (by omega)
 have hfm := H.fr m
 have hem := em_I64 h3 h4 (zat r m * zat r m)
 have HC0 := hid (wmul_any p V (zat r m) (zat r m) w h3 h4 c0 hfm hfm)
 have HC1 := hid (wsub_any p V (zat r m * zat r m % (p : Int)) (zat r m) w h3 h4 c0 hem hfm)
 have HE : Hid (chz p r i = (zat r m * zat r m % (p : Int) - zat r m) % (p : Int)) := by
  unfold Hid chz
  rw [em_sub1, <- hm, Int.mul_sub, Int.mul_one]
 obtain ⟨R, hR⟩ := exE (chz p r i)
 rw [<- hR] at HE ⊢
 clear hR H hV hrw hm hfm hem
 generalize (zat r m * zat r m % (p : Int) - zat r m) % (p : Int) = t2 at *
 generalize zat r m * zat r m % (p : Int) = t1 at *
 generalize zat r m = zm at *
 generalize r.length = lr at *
 generalize L.length = nL at *
 go_enter Tryz.func66, Tryz.ntmps66
 go_wp2_with fail
 refine HC0.out.mono ?_
 rintro e w' ⟨rfl, hw'⟩
 have hw'' := hw'.symm
 subst hw''
 clear hw'
 go_wp2_with fail
 refine HC1.out.mono ?_
 rintro e w' ⟨rfl, hw'⟩
 have hw'' := hw'.symm
 subst hw''
 clear hw'
 go_wp2_with fail
 go_ret
 exact ⟨by have h := HE.out; subst h; rfl, Below.refl _ _⟩
def lpz (p : Nat) (s : Nat -> Int) : Nat -> Int
 | 0 => -1
 | k + 1 => (lpz p s k + s k) % (p : Int)
theorem lpz_smz (p : Nat) (s : Nat -> Int) : ∀ k, lpz p s k % (p : Int) = (smz p s (fun _ => 1) k - 1) % (p : Int)
 | 0 => rfl
 | k + 1 => by
  rw [lpz, smz, Int.emod_emod_of_dvd _ (Int.dvd_refl _), em_sub1, <- em_add1, lpz_smz p s k, em_add1, Int.mul_one]
  congr 1
  omega
theorem lpz_I64 {p : Nat} (h3 : 3 <= p) (h4 : p <= 2147483647) (s : Nat -> Int) : ∀ k, I64 (lpz p s k)
 | 0 => by unfold lpz I64; decide
 | k + 1 => em_I64 h3 h4 _
theorem wrule_0 (p V : Nat) (L : List InsZ) (size out : Int) (r n : List Int) (aL : Option Addr) (cL : Nat) (ar : Option Addr) (cr : Nat) (an : Option Addr) (cn : Nat) (w : World) (H : VF p L size out r n) (hV : WW p V L size out r n aL cL ar cr an cn w) :
  Calls Tryz.prog 66 #[.pointer (some ⟨V, 0, none⟩), .int .i64 ((L.length + 0 : Nat) : Int)] w fun e w' => e = .returned (.int .i64 ((smt p L r (fun _ _ => 1) - 1) % (p : Int))) /\ Below w.heap.size w w' := by
 have h3 := H.h3
 have h4 := H.h4
 have hl := H.hl
 obtain ⟨br, orr, har, hrw⟩ := rowB_at hV.row H.hr
 subst har
 obtain ⟨c0, c1, c2, c3, c4, c5⟩ := hV.cells
 obtain ⟨nL, hnL⟩ := exE (L.length)
 have HE : Hid ((smt p L r (fun _ _ => 1) - 1) % (p : Int) = lpz p (sel r) nL % (p : Int)) := by unfold Hid; rw [lpz_smz, hnL]; rfl
 have HOF := hid (fun W => rof_any p (lpz p (sel r) nL) W h3 h4 (lpz_I64 h3 h4 _ _).1 (lpz_I64 h3 h4 _ _).2)
 have HRW := hid hrw
 have HNL := hid hnL
 have HFR := hid H.fr
 have HLR : Hid ((r.length : Int) = 20 + (nL : Int)) := by have := H.hr; unfold Hid; omega
 rw [<- hnL] at hl c2 ⊢
 rw [Nat.add_zero]
 obtain ⟨R, hR⟩ := exE ((smt p L r (fun _ _ => 1) - 1) % (p : Int))
 rw [<- hR] at HE ⊢
 have f1 : ¬ (nL : Int) < (nL : Int) := by omega
 have f2 : (nL : Int) - (nL : Int) = 0 := by omega
 obtain ⟨lr, hlr⟩ := exE (r.length)
 rw [<- hlr] at HLR c4
 clear hnL hrw hR hV H hlr
 go_enter Tryz.func66, Tryz.ntmps66
 go_wp2_with fail
 go_loop [8, 9] (fun ov iv => ∃ k : Nat, k <= nL /\ iv = .int .i64 k /\ ov = .int .i64 (lpz p (sel r) k)) (fun _ iv => nL - (intOf iv).toNat)
 case atStart => exact ⟨0, Nat.zero_le _, rfl, rfl⟩
 case round =>
  obtain ⟨k, hk, rfl, rfl⟩ := hrel
  by_cases hlt : k < nL
  ·have hlt2 : (k : Int) < (nL : Int) := by omega
   have hks : IntKind.i64.wrap ((k : Int) + 1) = (k : Int) + 1 := by rw [IntKind.wrap_i64]; omega
   obtain ⟨m, hm⟩ := exE (20 + k)
   have em : 20 + (k : Int) = (m : Int) := by omega
   have wm : IntKind.i64.wrap (m : Int) = (m : Int) := by rw [IntKind.wrap_i64]; omega
   have lm : (m : Int) < (lr : Int) := by have := HLR.out; omega
   have cm := HRW.out m (by have := HNL.out; omega)
   have HAD : Hid (Calls Tryz.prog 100 #[.pointer (some ⟨V, 0, none⟩), .int .i64 (lpz p (sel r) k), .int .i64 (zat r m)] w fun e w' => e = .returned (.int .i64 (lpz p (sel r) (k + 1))) /\ w' = w) := by
    unfold Hid
    rw [lpz, show sel r k = zat r m by rw [hm]; rfl]
    exact wadd_any p V _ _ w h3 h4 c0 (lpz_I64 h3 h4 _ _) (HFR.out m)
   obtain ⟨t2, ht2⟩ : ∃ t, t = lpz p (sel r) (k + 1) := ⟨_, rfl⟩
   have HT2 := hid ht2
   rw [<- ht2] at HAD
   generalize lpz p (sel r) k = t0 at *
   generalize zat r m = zm at *
   clear hm ht2
   go_wp2_with fail
   refine HAD.out.mono ?_
   rintro e w' ⟨rfl, hw'⟩
   have hw'' := hw'.symm
   subst hw''
   clear hw'
   go_wp2_with fail
   go_round
   case rel => exact ⟨k + 1, by omega, by go_num, by rw [HT2.out]⟩
   case measure => simp [intOf]; omega
  ·have hlt2 : ¬ (k : Int) < (nL : Int) := by omega
   obtain rfl : k = nL := by omega
   generalize lpz p (sel r) k % (p : Int) = t at *
   generalize lpz p (sel r) k = t0 at *
   go_wp2_with fail
   refine (HOF.out _).mono ?_
   rintro e w' ⟨rfl, hw'⟩
   have hw'' := hw'.symm
   subst hw''
   clear hw'
   go_wp2_with fail
   go_ret
   exact ⟨by have h := HE.out; subst h; rfl, Below.refl _ _⟩
theorem wrule_12 (p V : Nat) (L : List InsZ) (size out : Int) (r n : List Int) (aL : Option Addr) (cL : Nat) (ar : Option Addr) (cr : Nat) (an : Option Addr) (cn : Nat) (w : World) (H : VF p L size out r n) (hV : WW p V L size out r n aL cL ar cr an cn w) :
  Calls Tryz.prog 66 #[.pointer (some ⟨V, 0, none⟩), .int .i64 ((L.length + 12 : Nat) : Int)] w fun e w' => e = .returned (.int .i64 ((smt p L n (fun k _ => (k : Int)) - smt p L r (tvN p r)) % (p : Int))) /\ Below w.heap.size w w' := by
 have h3 := H.h3
 have h4 := H.h4
 have hl := H.hl
 obtain ⟨bn, onn, han, hnw⟩ := rowB_at hV.nxt H.hn
 subst han
 obtain ⟨c0, c1, c2, c3, c4, c5⟩ := hV.cells
 obtain ⟨nL, hnL⟩ := exE (L.length)
 have HS : Hid (smt p L n (fun k _ => (k : Int)) = smz p (sel n) (fun k => (k : Int)) nL) := by unfold Hid; rw [hnL]; rfl
 have HSM : Hid (Calls Tryz.prog 101 #[.pointer (some ⟨V, 0, none⟩), .int .i64 5] w fun e w' => e = .returned (.int .i64 (smt p L r (tvN p r))) /\ Below w.heap.size w w') := wsum_any p V L size out r n aL cL ar cr _ cn w H hV 5 (by omega)
 have es := fun s f => (show I64 (smt p L s f) by have := smt_bd h3 L s f; unfold I64; omega)
 have HSB : Hid (∀ W, Below w.heap.size w W -> Calls Tryz.prog 99 #[.pointer (some ⟨V, 0, none⟩), .int .i64 (smt p L n (fun k _ => (k : Int))), .int .i64 (smt p L r (tvN p r))] W fun e w' => e = .returned (.int .i64 ((smt p L n (fun k _ => (k : Int)) - smt p L r (tvN p r)) % (p : Int))) /\ w' = W) := fun W h => wsub_any p V _ _ W h3 h4 (hV.below h).cells.1 (es _ _) (es _ _)
 rw [HS.out] at HSB ⊢
 have HNW := hid hnw
 have HNL := hid hnL
 have HFN := hid H.fn
 have HLN : Hid ((n.length : Int) = 20 + (nL : Int)) := by have := H.hn; unfold Hid; omega
 obtain ⟨I, hI⟩ : ∃ I : Int, I = ((L.length + 12 : Nat) : Int) := ⟨_, rfl⟩
 rw [<- hI]
 have f1 : ¬ I < (nL : Int) := by omega
 have f2 : I - (nL : Int) = 12 := by omega
 rw [<- hnL] at hl c2
 obtain ⟨ln, hln⟩ := exE (n.length)
 rw [<- hln] at HLN c5
 obtain ⟨R, hR⟩ := exE ((smz p (sel n) (fun k => (k : Int)) nL - smt p L r (tvN p r)) % (p : Int))
 rw [<- hR] at HSB ⊢
 generalize smt p L r (tvN p r) = sN at *
 clear hnL hnw hI hV H hln HS es hR
 go_enter Tryz.func66, Tryz.ntmps66
 go_wp2_with fail
 go_loop [12, 13, 14] (fun ov iv _ => ∃ k : Nat, k <= nL /\ iv = .int .i64 k /\ ov = .int .i64 (smz p (sel n) (fun k => (k : Int)) k)) (fun _ iv _ => nL - (intOf iv).toNat)
 case atStart => exact ⟨0, Nat.zero_le _, rfl, rfl⟩
 case round =>
  obtain ⟨k, hk, rfl, rfl⟩ := hrel
  by_cases hlt : k < nL
  ·have hlt2 : (k : Int) < (nL : Int) := by omega
   have hks : IntKind.i64.wrap ((k : Int) + 1) = (k : Int) + 1 := by rw [IntKind.wrap_i64]; omega
   obtain ⟨m, hm⟩ := exE (20 + k)
   have em : 20 + (k : Int) = (m : Int) := by omega
   have wm : IntKind.i64.wrap (m : Int) = (m : Int) := by rw [IntKind.wrap_i64]; omega
   have lm : (m : Int) < (ln : Int) := by have := HLN.out; omega
   have cm := HNW.out m (by have := HNL.out; omega)
   have hbk : I64 (k : Int) := by unfold I64; omega
   have HML := hid (wmul_any p V (k : Int) (zat n m) w h3 h4 c0 hbk (HFN.out m))
   have bs0 := smz_bd h3 (sel n) (fun k => (k : Int)) k
   have hbs : I64 (smz p (sel n) (fun k => (k : Int)) k) := by unfold I64; omega
   have HAD : Hid (Calls Tryz.prog 100 #[.pointer (some ⟨V, 0, none⟩), .int .i64 (smz p (sel n) (fun k => (k : Int)) k), .int .i64 ((k : Int) * zat n m % (p : Int))] w fun e w' => e = .returned (.int .i64 (smz p (sel n) (fun k => (k : Int)) (k + 1))) /\ w' = w) := by
    unfold Hid
    rw [smz, show sel n k = zat n m by rw [hm]; rfl, Int.mul_comm (zat n m), <- em_add2]
    exact wadd_any p V _ _ w h3 h4 c0 hbs (em_I64 h3 h4 _)
   obtain ⟨t2, ht2⟩ : ∃ t, t = smz p (sel n) (fun k => (k : Int)) (k + 1) := ⟨_, rfl⟩
   have HT2 := hid ht2
   rw [<- ht2] at HAD
   generalize (k : Int) * zat n m % (p : Int) = t1 at *
   generalize smz p (sel n) (fun k => (k : Int)) k = t0 at *
   generalize zat n m = zm at *
   clear hm ht2 hbk bs0 hbs
   go_wp2_with fail
   refine HML.out.mono ?_
   rintro e w' ⟨rfl, hw'⟩
   have hw'' := hw'.symm
   subst hw''
   clear hw'
   go_wp2_with fail
   refine HAD.out.mono ?_
   rintro e w' ⟨rfl, hw'⟩
   have hw'' := hw'.symm
   subst hw''
   clear hw'
   go_wp2_with fail
   go_round
   case rel => exact ⟨k + 1, by omega, by go_num, by rw [HT2.out]⟩
   case measure => simp [intOf]; omega
  ·have hlt2 : ¬ (k : Int) < (nL : Int) := by omega
   obtain rfl : k = nL := by omega
   generalize smz p (sel n) (fun k => (k : Int)) k = t0 at *
   go_wp2_with fail
   refine HSM.out.mono ?_
   rintro e w1 ⟨rfl, hb1⟩
   have HB1 := hid hb1
   clear hb1
   go_wp2_with fail
   refine (HSB.out w1 HB1.out).mono ?_
   rintro e w' ⟨rfl, hw'⟩
   have hw'' := hw'.symm
   subst hw''
   clear hw'
   go_wp2_with fail
   go_ret
   exact ⟨rfl, HB1.out⟩
theorem wrule_any (p V : Nat) (L : List InsZ) (size out : Int) (r n : List Int) (aL : Option Addr) (cL : Nat) (ar : Option Addr) (cr : Nat) (an : Option Addr) (cn : Nat) (w : World) (H : VF p L size out r n) (hV : WW p V L size out r n aL cL ar cr an cn w) (i : Nat) (hi : i < L.length + 26) :
  Calls Tryz.prog 66 #[.pointer (some ⟨V, 0, none⟩), .int .i64 (i : Int)] w fun e w' => e = .returned (.int .i64 (zat (rls p L size out r n) i)) /\ Below w.heap.size w w' := by
 by_cases hlo : i < L.length
 ·rw [rls_low _ _ _ _ _ _ hlo]
  exact wrule_low p V L size out r n aL cL ar cr an cn w H hV i hlo
 ·obtain ⟨j, rfl⟩ : ∃ j, i = L.length + j := ⟨i - L.length, by omega⟩
  rw [rls_high]
  have : j = 0 ∨ j = 1 ∨ j = 2 ∨ j = 3 ∨ j = 4 ∨ j = 5 ∨ j = 6 ∨ j = 7 ∨ j = 8 ∨ j = 9 ∨ j = 10 ∨ j = 11 ∨ j = 12 ∨ j = 13 ∨ j = 14 ∨ j = 15 ∨ j = 16 ∨ j = 17 ∨ j = 18 ∨ j = 19 ∨ j = 20 ∨ j = 21 ∨ j = 22 ∨ j = 23 ∨ j = 24 ∨ j = 25 := by omega
  rcases this with rfl | rfl | rfl | rfl | rfl | rfl | rfl | rfl | rfl | rfl | rfl | rfl | rfl | rfl | rfl | rfl | rfl | rfl | rfl | rfl | rfl | rfl | rfl | rfl | rfl | rfl
  ·exact wrule_0 p V L size out r n aL cL ar cr an cn w H hV
  ·exact wrule_1 p V L size out r n aL cL ar cr an cn w H hV
  ·exact wrule_2 p V L size out r n aL cL ar cr an cn w H hV
  ·exact wrule_3 p V L size out r n aL cL ar cr an cn w H hV
  ·exact wrule_4 p V L size out r n aL cL ar cr an cn w H hV
  ·exact wrule_5 p V L size out r n aL cL ar cr an cn w H hV
  ·exact wrule_6 p V L size out r n aL cL ar cr an cn w H hV
  ·exact wrule_7 p V L size out r n aL cL ar cr an cn w H hV
  ·exact wrule_8 p V L size out r n aL cL ar cr an cn w H hV
  ·exact wrule_9 p V L size out r n aL cL ar cr an cn w H hV
  ·exact wrule_10 p V L size out r n aL cL ar cr an cn w H hV
  ·exact wrule_11 p V L size out r n aL cL ar cr an cn w H hV
  ·exact wrule_12 p V L size out r n aL cL ar cr an cn w H hV
  ·exact wrule_13 p V L size out r n aL cL ar cr an cn w H hV
  ·exact wrule_14 p V L size out r n aL cL ar cr an cn w H hV
  ·exact wrule_15 p V L size out r n aL cL ar cr an cn w H hV
  ·exact wrule_16 p V L size out r n aL cL ar cr an cn w H hV
  ·exact wrule_17 p V L size out r n aL cL ar cr an cn w H hV
  ·exact wrule_18 p V L size out r n aL cL ar cr an cn w H hV
  ·exact wrule_19 p V L size out r n aL cL ar cr an cn w H hV
  ·exact wrule_20 p V L size out r n aL cL ar cr an cn w H hV
  ·exact wrule_21 p V L size out r n aL cL ar cr an cn w H hV
  ·exact wrule_22 p V L size out r n aL cL ar cr an cn w H hV
  ·exact wrule_23 p V L size out r n aL cL ar cr an cn w H hV
  ·exact wrule_24 p V L size out r n aL cL ar cr an cn w H hV
  ·exact wrule_25 p V L size out r n aL cL ar cr an cn w H hV
end Go.Proofs.YtjlngcmkgkiplaaGreatDoor
