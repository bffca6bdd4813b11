/- The reference: Rule, those of pairs, and of the first and the last row. -/
import Derived.Test.YtaibngnabhmabajDoorBbAN
namespace Go.Proofs.YtaibngnabhmabajDoor
open Go.RowKit Go.Maps

set_option maxRecDepth 100000 in
set_option maxHeartbeats 4000000 in
theorem wrule_6 (p V : Nat) (L : List InsZ) (size out : Int) (r n : List Int) (aL : Option Addr) (cL : Nat) (ar : Option Addr) (cr : Nat) (an : Option Addr) (cn : Nat) (w : World) (H : VF p L size out r n) (hV : WW p V L size out r n aL cL ar cr an cn w) :
    Calls Tryd.prog 16 #[.pointer (some ⟨V, 0, none⟩), .int .i64 ((L.length + 6 : Nat) : Int)] w fun e w' => e = .returned (.int .i64 (ord1 p (zat r 12) (zat r 13))) ∧ Below w.heap.size w w' := by
  have h3 := H.h3
  have h4 := H.h4
  have e := em_I64 h3 h4
  have es := fun s f => (show I64 (smt p L s f) by have := smt_bd h3 L s f; unfold I64; omega)
  obtain ⟨br, orr, har, hrw⟩ := rowB_at hV.row H.hr
  subst har
  obtain ⟨bn, onn, han, hnw⟩ := rowB_at hV.nxt H.hn
  subst han
  have hh1 := H.h1
  have hl := H.hl
  have HX : Hid (∀ W, Below w.heap.size w W → (W.cell? ⟨V, 0, none⟩ = some (.int .i64 p) ∧ W.cell? ⟨V, 1, none⟩ = some (.int .i64 size) ∧ W.cell? ⟨V, 2, none⟩ = some (.slice aL L.length cL) ∧ W.cell? ⟨V, 3, none⟩ = some (.int .i64 out) ∧ W.cell? ⟨V, 4, none⟩ = some (.slice (some ⟨br, orr, none⟩) r.length cr) ∧ W.cell? ⟨V, 5, none⟩ = some (.slice (some ⟨bn, onn, none⟩) n.length cn) ∧ W.cell? ⟨br, orr + 12, none⟩ = some (.int .i64 (zat r 12)) ∧ W.cell? ⟨br, orr + 13, none⟩ = some (.int .i64 (zat r 13)) ∧ W.cell? ⟨br, orr + 16, none⟩ = some (.int .i64 (zat r 16)) ∧ W.cell? ⟨br, orr + 17, none⟩ = some (.int .i64 (zat r 17)))) := fun W h => by
    have hc := (hV.below h).cells
    exact ⟨hc.1, hc.2.1, hc.2.2.1, hc.2.2.2.1, hc.2.2.2.2.1, hc.2.2.2.2.2, (h.cell (p := ⟨br, orr + 12, none⟩) (World.block_lt_of_cell? _ _ (hrw 12 (by omega)))).trans (hrw 12 (by omega)), (h.cell (p := ⟨br, orr + 13, none⟩) (World.block_lt_of_cell? _ _ (hrw 13 (by omega)))).trans (hrw 13 (by omega)), (h.cell (p := ⟨br, orr + 16, none⟩) (World.block_lt_of_cell? _ _ (hrw 16 (by omega)))).trans (hrw 16 (by omega)), (h.cell (p := ⟨br, orr + 17, none⟩) (World.block_lt_of_cell? _ _ (hrw 17 (by omega)))).trans (hrw 17 (by omega))⟩
  have l12 : (12 : Int) < (r.length : Int) := by have := H.hr; omega
  have l13 : (13 : Int) < (r.length : Int) := by have := H.hr; omega
  have l16 : (16 : Int) < (r.length : Int) := by have := H.hr; omega
  have l17 : (17 : Int) < (r.length : Int) := by have := H.hr; omega
  obtain ⟨I, hI⟩ : ∃ I : Int, I = ((L.length + 6 : Nat) : Int) := ⟨_, rfl⟩
  rw [← hI]
  have f1 : ¬ I < (L.length : Int) := by omega
  have f2 : I - (L.length : Int) = 6 := by omega
  clear hI
  have HC0 : Hid (∀ W : World, W.cell? ⟨V, 0, none⟩ = some (.int .i64 p) → Calls Tryd.prog 28 #[.pointer (some ⟨V, 0, none⟩), .int .i64 (zat r 12), .int .i64 (zat r 16), .int .i64 (zat r 13), .int .i64 (zat r 17), .bool false] W fun e w' => e = .returned (.int .i64 (ord1 p (zat r 12) (zat r 13))) ∧ w' = W) := fun W h => worder_false p V _ _ _ _ W h3 h4 h (H.fr 12) (H.fr 16) (H.fr 13) (H.fr 17)
  have HB0 : Hid (Below w.heap.size w w) := Below.refl _ _
  obtain ⟨c0, c1, c2, c3, c4, c5, r12, r13, r16, r17⟩ := HX.out w HB0.out
  clear H hV hrw hnw e es hh1
  generalize (ord1 p (zat r 12) (zat r 13)) = t at *
  generalize zat r 12 = x12 at *
  generalize zat r 13 = x13 at *
  generalize zat r 16 = x16 at *
  generalize zat r 17 = x17 at *
  generalize r.length = lr at *
  generalize n.length = ln at *
  generalize L.length = nL at *
  go_enter Tryd.func16, Tryd.ntmps16
  go_wp2_with fail
  have QP : Hid (∀ nn, (w.drewN nn).cell? ⟨V, 0, none⟩ = some (.int .i64 p)) := fun nn => c0
  go_quiet (first
    | (go_at_call 28; with_reducible exact Calls.quiet_of_same (HC0.out _ (QP.out _))))
  go_wp2_with fail
  go_ret
  exact ⟨rfl, below_drewN HB0.out _⟩

set_option maxRecDepth 100000 in
set_option maxHeartbeats 4000000 in
theorem wrule_7 (p V : Nat) (L : List InsZ) (size out : Int) (r n : List Int) (aL : Option Addr) (cL : Nat) (ar : Option Addr) (cr : Nat) (an : Option Addr) (cn : Nat) (w : World) (H : VF p L size out r n) (hV : WW p V L size out r n aL cL ar cr an cn w) :
    Calls Tryd.prog 16 #[.pointer (some ⟨V, 0, none⟩), .int .i64 ((L.length + 7 : Nat) : Int)] w fun e w' => e = .returned (.int .i64 (ord2 p (zat r 12) (zat r 16) (zat r 13) (zat r 17))) ∧ Below w.heap.size w w' := by
  have h3 := H.h3
  have h4 := H.h4
  have e := em_I64 h3 h4
  have es := fun s f => (show I64 (smt p L s f) by have := smt_bd h3 L s f; unfold I64; omega)
  obtain ⟨br, orr, har, hrw⟩ := rowB_at hV.row H.hr
  subst har
  obtain ⟨bn, onn, han, hnw⟩ := rowB_at hV.nxt H.hn
  subst han
  have hh1 := H.h1
  have hl := H.hl
  have HX : Hid (∀ W, Below w.heap.size w W → (W.cell? ⟨V, 0, none⟩ = some (.int .i64 p) ∧ W.cell? ⟨V, 1, none⟩ = some (.int .i64 size) ∧ W.cell? ⟨V, 2, none⟩ = some (.slice aL L.length cL) ∧ W.cell? ⟨V, 3, none⟩ = some (.int .i64 out) ∧ W.cell? ⟨V, 4, none⟩ = some (.slice (some ⟨br, orr, none⟩) r.length cr) ∧ W.cell? ⟨V, 5, none⟩ = some (.slice (some ⟨bn, onn, none⟩) n.length cn) ∧ W.cell? ⟨br, orr + 12, none⟩ = some (.int .i64 (zat r 12)) ∧ W.cell? ⟨br, orr + 13, none⟩ = some (.int .i64 (zat r 13)) ∧ W.cell? ⟨br, orr + 16, none⟩ = some (.int .i64 (zat r 16)) ∧ W.cell? ⟨br, orr + 17, none⟩ = some (.int .i64 (zat r 17)))) := fun W h => by
    have hc := (hV.below h).cells
    exact ⟨hc.1, hc.2.1, hc.2.2.1, hc.2.2.2.1, hc.2.2.2.2.1, hc.2.2.2.2.2, (h.cell (p := ⟨br, orr + 12, none⟩) (World.block_lt_of_cell? _ _ (hrw 12 (by omega)))).trans (hrw 12 (by omega)), (h.cell (p := ⟨br, orr + 13, none⟩) (World.block_lt_of_cell? _ _ (hrw 13 (by omega)))).trans (hrw 13 (by omega)), (h.cell (p := ⟨br, orr + 16, none⟩) (World.block_lt_of_cell? _ _ (hrw 16 (by omega)))).trans (hrw 16 (by omega)), (h.cell (p := ⟨br, orr + 17, none⟩) (World.block_lt_of_cell? _ _ (hrw 17 (by omega)))).trans (hrw 17 (by omega))⟩
  have l12 : (12 : Int) < (r.length : Int) := by have := H.hr; omega
  have l13 : (13 : Int) < (r.length : Int) := by have := H.hr; omega
  have l16 : (16 : Int) < (r.length : Int) := by have := H.hr; omega
  have l17 : (17 : Int) < (r.length : Int) := by have := H.hr; omega
  obtain ⟨I, hI⟩ : ∃ I : Int, I = ((L.length + 7 : Nat) : Int) := ⟨_, rfl⟩
  rw [← hI]
  have f1 : ¬ I < (L.length : Int) := by omega
  have f2 : I - (L.length : Int) = 7 := by omega
  clear hI
  have HC0 : Hid (∀ W : World, W.cell? ⟨V, 0, none⟩ = some (.int .i64 p) → Calls Tryd.prog 28 #[.pointer (some ⟨V, 0, none⟩), .int .i64 (zat r 12), .int .i64 (zat r 16), .int .i64 (zat r 13), .int .i64 (zat r 17), .bool true] W fun e w' => e = .returned (.int .i64 (ord2 p (zat r 12) (zat r 16) (zat r 13) (zat r 17))) ∧ w' = W) := fun W h => worder_true p V _ _ _ _ W h3 h4 h (H.fr 12) (H.fr 16) (H.fr 13) (H.fr 17)
  have HB0 : Hid (Below w.heap.size w w) := Below.refl _ _
  obtain ⟨c0, c1, c2, c3, c4, c5, r12, r13, r16, r17⟩ := HX.out w HB0.out
  clear H hV hrw hnw e es hh1
  generalize (ord2 p (zat r 12) (zat r 16) (zat r 13) (zat r 17)) = t at *
  generalize zat r 12 = x12 at *
  generalize zat r 13 = x13 at *
  generalize zat r 16 = x16 at *
  generalize zat r 17 = x17 at *
  generalize r.length = lr at *
  generalize n.length = ln at *
  generalize L.length = nL at *
  go_enter Tryd.func16, Tryd.ntmps16
  go_wp2_with fail
  have QP : Hid (∀ nn, (w.drewN nn).cell? ⟨V, 0, none⟩ = some (.int .i64 p)) := fun nn => c0
  go_quiet (first
    | (go_at_call 28; with_reducible exact Calls.quiet_of_same (HC0.out _ (QP.out _))))
  go_wp2_with fail
  go_ret
  exact ⟨rfl, below_drewN HB0.out _⟩

set_option maxRecDepth 100000 in
set_option maxHeartbeats 4000000 in
theorem wrule_8 (p V : Nat) (L : List InsZ) (size out : Int) (r n : List Int) (aL : Option Addr) (cL : Nat) (ar : Option Addr) (cr : Nat) (an : Option Addr) (cn : Nat) (w : World) (H : VF p L size out r n) (hV : WW p V L size out r n aL cL ar cr an cn w) :
    Calls Tryd.prog 16 #[.pointer (some ⟨V, 0, none⟩), .int .i64 ((L.length + 8 : Nat) : Int)] w fun e w' => e = .returned (.int .i64 (ord1 p (zat r 13) (zat r 14))) ∧ Below w.heap.size w w' := by
  have h3 := H.h3
  have h4 := H.h4
  have e := em_I64 h3 h4
  have es := fun s f => (show I64 (smt p L s f) by have := smt_bd h3 L s f; unfold I64; omega)
  obtain ⟨br, orr, har, hrw⟩ := rowB_at hV.row H.hr
  subst har
  obtain ⟨bn, onn, han, hnw⟩ := rowB_at hV.nxt H.hn
  subst han
  have hh1 := H.h1
  have hl := H.hl
  have HX : Hid (∀ W, Below w.heap.size w W → (W.cell? ⟨V, 0, none⟩ = some (.int .i64 p) ∧ W.cell? ⟨V, 1, none⟩ = some (.int .i64 size) ∧ W.cell? ⟨V, 2, none⟩ = some (.slice aL L.length cL) ∧ W.cell? ⟨V, 3, none⟩ = some (.int .i64 out) ∧ W.cell? ⟨V, 4, none⟩ = some (.slice (some ⟨br, orr, none⟩) r.length cr) ∧ W.cell? ⟨V, 5, none⟩ = some (.slice (some ⟨bn, onn, none⟩) n.length cn) ∧ W.cell? ⟨br, orr + 13, none⟩ = some (.int .i64 (zat r 13)) ∧ W.cell? ⟨br, orr + 14, none⟩ = some (.int .i64 (zat r 14)) ∧ W.cell? ⟨br, orr + 17, none⟩ = some (.int .i64 (zat r 17)) ∧ W.cell? ⟨br, orr + 18, none⟩ = some (.int .i64 (zat r 18)))) := fun W h => by
    have hc := (hV.below h).cells
    exact ⟨hc.1, hc.2.1, hc.2.2.1, hc.2.2.2.1, hc.2.2.2.2.1, hc.2.2.2.2.2, (h.cell (p := ⟨br, orr + 13, none⟩) (World.block_lt_of_cell? _ _ (hrw 13 (by omega)))).trans (hrw 13 (by omega)), (h.cell (p := ⟨br, orr + 14, none⟩) (World.block_lt_of_cell? _ _ (hrw 14 (by omega)))).trans (hrw 14 (by omega)), (h.cell (p := ⟨br, orr + 17, none⟩) (World.block_lt_of_cell? _ _ (hrw 17 (by omega)))).trans (hrw 17 (by omega)), (h.cell (p := ⟨br, orr + 18, none⟩) (World.block_lt_of_cell? _ _ (hrw 18 (by omega)))).trans (hrw 18 (by omega))⟩
  have l13 : (13 : Int) < (r.length : Int) := by have := H.hr; omega
  have l14 : (14 : Int) < (r.length : Int) := by have := H.hr; omega
  have l17 : (17 : Int) < (r.length : Int) := by have := H.hr; omega
  have l18 : (18 : Int) < (r.length : Int) := by have := H.hr; omega
  obtain ⟨I, hI⟩ : ∃ I : Int, I = ((L.length + 8 : Nat) : Int) := ⟨_, rfl⟩
  rw [← hI]
  have f1 : ¬ I < (L.length : Int) := by omega
  have f2 : I - (L.length : Int) = 8 := by omega
  clear hI
  have HC0 : Hid (∀ W : World, W.cell? ⟨V, 0, none⟩ = some (.int .i64 p) → Calls Tryd.prog 28 #[.pointer (some ⟨V, 0, none⟩), .int .i64 (zat r 13), .int .i64 (zat r 17), .int .i64 (zat r 14), .int .i64 (zat r 18), .bool false] W fun e w' => e = .returned (.int .i64 (ord1 p (zat r 13) (zat r 14))) ∧ w' = W) := fun W h => worder_false p V _ _ _ _ W h3 h4 h (H.fr 13) (H.fr 17) (H.fr 14) (H.fr 18)
  have HB0 : Hid (Below w.heap.size w w) := Below.refl _ _
  obtain ⟨c0, c1, c2, c3, c4, c5, r13, r14, r17, r18⟩ := HX.out w HB0.out
  clear H hV hrw hnw e es hh1
  generalize (ord1 p (zat r 13) (zat r 14)) = t at *
  generalize zat r 13 = x13 at *
  generalize zat r 14 = x14 at *
  generalize zat r 17 = x17 at *
  generalize zat r 18 = x18 at *
  generalize r.length = lr at *
  generalize n.length = ln at *
  generalize L.length = nL at *
  go_enter Tryd.func16, Tryd.ntmps16
  go_wp2_with fail
  have QP : Hid (∀ nn, (w.drewN nn).cell? ⟨V, 0, none⟩ = some (.int .i64 p)) := fun nn => c0
  go_quiet (first
    | (go_at_call 28; with_reducible exact Calls.quiet_of_same (HC0.out _ (QP.out _))))
  go_wp2_with fail
  go_ret
  exact ⟨rfl, below_drewN HB0.out _⟩

set_option maxRecDepth 100000 in
set_option maxHeartbeats 4000000 in
theorem wrule_9 (p V : Nat) (L : List InsZ) (size out : Int) (r n : List Int) (aL : Option Addr) (cL : Nat) (ar : Option Addr) (cr : Nat) (an : Option Addr) (cn : Nat) (w : World) (H : VF p L size out r n) (hV : WW p V L size out r n aL cL ar cr an cn w) :
    Calls Tryd.prog 16 #[.pointer (some ⟨V, 0, none⟩), .int .i64 ((L.length + 9 : Nat) : Int)] w fun e w' => e = .returned (.int .i64 (ord2 p (zat r 13) (zat r 17) (zat r 14) (zat r 18))) ∧ Below w.heap.size w w' := by
  have h3 := H.h3
  have h4 := H.h4
  have e := em_I64 h3 h4
  have es := fun s f => (show I64 (smt p L s f) by have := smt_bd h3 L s f; unfold I64; omega)
  obtain ⟨br, orr, har, hrw⟩ := rowB_at hV.row H.hr
  subst har
  obtain ⟨bn, onn, han, hnw⟩ := rowB_at hV.nxt H.hn
  subst han
  have hh1 := H.h1
  have hl := H.hl
  have HX : Hid (∀ W, Below w.heap.size w W → (W.cell? ⟨V, 0, none⟩ = some (.int .i64 p) ∧ W.cell? ⟨V, 1, none⟩ = some (.int .i64 size) ∧ W.cell? ⟨V, 2, none⟩ = some (.slice aL L.length cL) ∧ W.cell? ⟨V, 3, none⟩ = some (.int .i64 out) ∧ W.cell? ⟨V, 4, none⟩ = some (.slice (some ⟨br, orr, none⟩) r.length cr) ∧ W.cell? ⟨V, 5, none⟩ = some (.slice (some ⟨bn, onn, none⟩) n.length cn) ∧ W.cell? ⟨br, orr + 13, none⟩ = some (.int .i64 (zat r 13)) ∧ W.cell? ⟨br, orr + 14, none⟩ = some (.int .i64 (zat r 14)) ∧ W.cell? ⟨br, orr + 17, none⟩ = some (.int .i64 (zat r 17)) ∧ W.cell? ⟨br, orr + 18, none⟩ = some (.int .i64 (zat r 18)))) := fun W h => by
    have hc := (hV.below h).cells
    exact ⟨hc.1, hc.2.1, hc.2.2.1, hc.2.2.2.1, hc.2.2.2.2.1, hc.2.2.2.2.2, (h.cell (p := ⟨br, orr + 13, none⟩) (World.block_lt_of_cell? _ _ (hrw 13 (by omega)))).trans (hrw 13 (by omega)), (h.cell (p := ⟨br, orr + 14, none⟩) (World.block_lt_of_cell? _ _ (hrw 14 (by omega)))).trans (hrw 14 (by omega)), (h.cell (p := ⟨br, orr + 17, none⟩) (World.block_lt_of_cell? _ _ (hrw 17 (by omega)))).trans (hrw 17 (by omega)), (h.cell (p := ⟨br, orr + 18, none⟩) (World.block_lt_of_cell? _ _ (hrw 18 (by omega)))).trans (hrw 18 (by omega))⟩
  have l13 : (13 : Int) < (r.length : Int) := by have := H.hr; omega
  have l14 : (14 : Int) < (r.length : Int) := by have := H.hr; omega
  have l17 : (17 : Int) < (r.length : Int) := by have := H.hr; omega
  have l18 : (18 : Int) < (r.length : Int) := by have := H.hr; omega
  obtain ⟨I, hI⟩ : ∃ I : Int, I = ((L.length + 9 : Nat) : Int) := ⟨_, rfl⟩
  rw [← hI]
  have f1 : ¬ I < (L.length : Int) := by omega
  have f2 : I - (L.length : Int) = 9 := by omega
  clear hI
  have HC0 : Hid (∀ W : World, W.cell? ⟨V, 0, none⟩ = some (.int .i64 p) → Calls Tryd.prog 28 #[.pointer (some ⟨V, 0, none⟩), .int .i64 (zat r 13), .int .i64 (zat r 17), .int .i64 (zat r 14), .int .i64 (zat r 18), .bool true] W fun e w' => e = .returned (.int .i64 (ord2 p (zat r 13) (zat r 17) (zat r 14) (zat r 18))) ∧ w' = W) := fun W h => worder_true p V _ _ _ _ W h3 h4 h (H.fr 13) (H.fr 17) (H.fr 14) (H.fr 18)
  have HB0 : Hid (Below w.heap.size w w) := Below.refl _ _
  obtain ⟨c0, c1, c2, c3, c4, c5, r13, r14, r17, r18⟩ := HX.out w HB0.out
  clear H hV hrw hnw e es hh1
  generalize (ord2 p (zat r 13) (zat r 17) (zat r 14) (zat r 18)) = t at *
  generalize zat r 13 = x13 at *
  generalize zat r 14 = x14 at *
  generalize zat r 17 = x17 at *
  generalize zat r 18 = x18 at *
  generalize r.length = lr at *
  generalize n.length = ln at *
  generalize L.length = nL at *
  go_enter Tryd.func16, Tryd.ntmps16
  go_wp2_with fail
  have QP : Hid (∀ nn, (w.drewN nn).cell? ⟨V, 0, none⟩ = some (.int .i64 p)) := fun nn => c0
  go_quiet (first
    | (go_at_call 28; with_reducible exact Calls.quiet_of_same (HC0.out _ (QP.out _))))
  go_wp2_with fail
  go_ret
  exact ⟨rfl, below_drewN HB0.out _⟩

set_option maxRecDepth 100000 in
set_option maxHeartbeats 4000000 in
theorem wrule_10 (p V : Nat) (L : List InsZ) (size out : Int) (r n : List Int) (aL : Option Addr) (cL : Nat) (ar : Option Addr) (cr : Nat) (an : Option Addr) (cn : Nat) (w : World) (H : VF p L size out r n) (hV : WW p V L size out r n aL cL ar cr an cn w) :
    Calls Tryd.prog 16 #[.pointer (some ⟨V, 0, none⟩), .int .i64 ((L.length + 10 : Nat) : Int)] w fun e w' => e = .returned (.int .i64 (ord1 p (zat r 14) (zat r 15))) ∧ Below w.heap.size w w' := by
  have h3 := H.h3
  have h4 := H.h4
  have e := em_I64 h3 h4
  have es := fun s f => (show I64 (smt p L s f) by have := smt_bd h3 L s f; unfold I64; omega)
  obtain ⟨br, orr, har, hrw⟩ := rowB_at hV.row H.hr
  subst har
  obtain ⟨bn, onn, han, hnw⟩ := rowB_at hV.nxt H.hn
  subst han
  have hh1 := H.h1
  have hl := H.hl
  have HX : Hid (∀ W, Below w.heap.size w W → (W.cell? ⟨V, 0, none⟩ = some (.int .i64 p) ∧ W.cell? ⟨V, 1, none⟩ = some (.int .i64 size) ∧ W.cell? ⟨V, 2, none⟩ = some (.slice aL L.length cL) ∧ W.cell? ⟨V, 3, none⟩ = some (.int .i64 out) ∧ W.cell? ⟨V, 4, none⟩ = some (.slice (some ⟨br, orr, none⟩) r.length cr) ∧ W.cell? ⟨V, 5, none⟩ = some (.slice (some ⟨bn, onn, none⟩) n.length cn) ∧ W.cell? ⟨br, orr + 14, none⟩ = some (.int .i64 (zat r 14)) ∧ W.cell? ⟨br, orr + 15, none⟩ = some (.int .i64 (zat r 15)) ∧ W.cell? ⟨br, orr + 18, none⟩ = some (.int .i64 (zat r 18)) ∧ W.cell? ⟨br, orr + 19, none⟩ = some (.int .i64 (zat r 19)))) := fun W h => by
    have hc := (hV.below h).cells
    exact ⟨hc.1, hc.2.1, hc.2.2.1, hc.2.2.2.1, hc.2.2.2.2.1, hc.2.2.2.2.2, (h.cell (p := ⟨br, orr + 14, none⟩) (World.block_lt_of_cell? _ _ (hrw 14 (by omega)))).trans (hrw 14 (by omega)), (h.cell (p := ⟨br, orr + 15, none⟩) (World.block_lt_of_cell? _ _ (hrw 15 (by omega)))).trans (hrw 15 (by omega)), (h.cell (p := ⟨br, orr + 18, none⟩) (World.block_lt_of_cell? _ _ (hrw 18 (by omega)))).trans (hrw 18 (by omega)), (h.cell (p := ⟨br, orr + 19, none⟩) (World.block_lt_of_cell? _ _ (hrw 19 (by omega)))).trans (hrw 19 (by omega))⟩
  have l14 : (14 : Int) < (r.length : Int) := by have := H.hr; omega
  have l15 : (15 : Int) < (r.length : Int) := by have := H.hr; omega
  have l18 : (18 : Int) < (r.length : Int) := by have := H.hr; omega
  have l19 : (19 : Int) < (r.length : Int) := by have := H.hr; omega
  obtain ⟨I, hI⟩ : ∃ I : Int, I = ((L.length + 10 : Nat) : Int) := ⟨_, rfl⟩
  rw [← hI]
  have f1 : ¬ I < (L.length : Int) := by omega
  have f2 : I - (L.length : Int) = 10 := by omega
  clear hI
  have HC0 : Hid (∀ W : World, W.cell? ⟨V, 0, none⟩ = some (.int .i64 p) → Calls Tryd.prog 28 #[.pointer (some ⟨V, 0, none⟩), .int .i64 (zat r 14), .int .i64 (zat r 18), .int .i64 (zat r 15), .int .i64 (zat r 19), .bool false] W fun e w' => e = .returned (.int .i64 (ord1 p (zat r 14) (zat r 15))) ∧ w' = W) := fun W h => worder_false p V _ _ _ _ W h3 h4 h (H.fr 14) (H.fr 18) (H.fr 15) (H.fr 19)
  have HB0 : Hid (Below w.heap.size w w) := Below.refl _ _
  obtain ⟨c0, c1, c2, c3, c4, c5, r14, r15, r18, r19⟩ := HX.out w HB0.out
  clear H hV hrw hnw e es hh1
  generalize (ord1 p (zat r 14) (zat r 15)) = t at *
  generalize zat r 14 = x14 at *
  generalize zat r 15 = x15 at *
  generalize zat r 18 = x18 at *
  generalize zat r 19 = x19 at *
  generalize r.length = lr at *
  generalize n.length = ln at *
  generalize L.length = nL at *
  go_enter Tryd.func16, Tryd.ntmps16
  go_wp2_with fail
  have QP : Hid (∀ nn, (w.drewN nn).cell? ⟨V, 0, none⟩ = some (.int .i64 p)) := fun nn => c0
  go_quiet (first
    | (go_at_call 28; with_reducible exact Calls.quiet_of_same (HC0.out _ (QP.out _))))
  go_wp2_with fail
  go_ret
  exact ⟨rfl, below_drewN HB0.out _⟩

set_option maxRecDepth 100000 in
set_option maxHeartbeats 4000000 in
theorem wrule_11 (p V : Nat) (L : List InsZ) (size out : Int) (r n : List Int) (aL : Option Addr) (cL : Nat) (ar : Option Addr) (cr : Nat) (an : Option Addr) (cn : Nat) (w : World) (H : VF p L size out r n) (hV : WW p V L size out r n aL cL ar cr an cn w) :
    Calls Tryd.prog 16 #[.pointer (some ⟨V, 0, none⟩), .int .i64 ((L.length + 11 : Nat) : Int)] w fun e w' => e = .returned (.int .i64 (ord2 p (zat r 14) (zat r 18) (zat r 15) (zat r 19))) ∧ Below w.heap.size w w' := by
  have h3 := H.h3
  have h4 := H.h4
  have e := em_I64 h3 h4
  have es := fun s f => (show I64 (smt p L s f) by have := smt_bd h3 L s f; unfold I64; omega)
  obtain ⟨br, orr, har, hrw⟩ := rowB_at hV.row H.hr
  subst har
  obtain ⟨bn, onn, han, hnw⟩ := rowB_at hV.nxt H.hn
  subst han
  have hh1 := H.h1
  have hl := H.hl
  have HX : Hid (∀ W, Below w.heap.size w W → (W.cell? ⟨V, 0, none⟩ = some (.int .i64 p) ∧ W.cell? ⟨V, 1, none⟩ = some (.int .i64 size) ∧ W.cell? ⟨V, 2, none⟩ = some (.slice aL L.length cL) ∧ W.cell? ⟨V, 3, none⟩ = some (.int .i64 out) ∧ W.cell? ⟨V, 4, none⟩ = some (.slice (some ⟨br, orr, none⟩) r.length cr) ∧ W.cell? ⟨V, 5, none⟩ = some (.slice (some ⟨bn, onn, none⟩) n.length cn) ∧ W.cell? ⟨br, orr + 14, none⟩ = some (.int .i64 (zat r 14)) ∧ W.cell? ⟨br, orr + 15, none⟩ = some (.int .i64 (zat r 15)) ∧ W.cell? ⟨br, orr + 18, none⟩ = some (.int .i64 (zat r 18)) ∧ W.cell? ⟨br, orr + 19, none⟩ = some (.int .i64 (zat r 19)))) := fun W h => by
    have hc := (hV.below h).cells
    exact ⟨hc.1, hc.2.1, hc.2.2.1, hc.2.2.2.1, hc.2.2.2.2.1, hc.2.2.2.2.2, (h.cell (p := ⟨br, orr + 14, none⟩) (World.block_lt_of_cell? _ _ (hrw 14 (by omega)))).trans (hrw 14 (by omega)), (h.cell (p := ⟨br, orr + 15, none⟩) (World.block_lt_of_cell? _ _ (hrw 15 (by omega)))).trans (hrw 15 (by omega)), (h.cell (p := ⟨br, orr + 18, none⟩) (World.block_lt_of_cell? _ _ (hrw 18 (by omega)))).trans (hrw 18 (by omega)), (h.cell (p := ⟨br, orr + 19, none⟩) (World.block_lt_of_cell? _ _ (hrw 19 (by omega)))).trans (hrw 19 (by omega))⟩
  have l14 : (14 : Int) < (r.length : Int) := by have := H.hr; omega
  have l15 : (15 : Int) < (r.length : Int) := by have := H.hr; omega
  have l18 : (18 : Int) < (r.length : Int) := by have := H.hr; omega
  have l19 : (19 : Int) < (r.length : Int) := by have := H.hr; omega
  obtain ⟨I, hI⟩ : ∃ I : Int, I = ((L.length + 11 : Nat) : Int) := ⟨_, rfl⟩
  rw [← hI]
  have f1 : ¬ I < (L.length : Int) := by omega
  have f2 : I - (L.length : Int) = 11 := by omega
  clear hI
  have HC0 : Hid (∀ W : World, W.cell? ⟨V, 0, none⟩ = some (.int .i64 p) → Calls Tryd.prog 28 #[.pointer (some ⟨V, 0, none⟩), .int .i64 (zat r 14), .int .i64 (zat r 18), .int .i64 (zat r 15), .int .i64 (zat r 19), .bool true] W fun e w' => e = .returned (.int .i64 (ord2 p (zat r 14) (zat r 18) (zat r 15) (zat r 19))) ∧ w' = W) := fun W h => worder_true p V _ _ _ _ W h3 h4 h (H.fr 14) (H.fr 18) (H.fr 15) (H.fr 19)
  have HB0 : Hid (Below w.heap.size w w) := Below.refl _ _
  obtain ⟨c0, c1, c2, c3, c4, c5, r14, r15, r18, r19⟩ := HX.out w HB0.out
  clear H hV hrw hnw e es hh1
  generalize (ord2 p (zat r 14) (zat r 18) (zat r 15) (zat r 19)) = t at *
  generalize zat r 14 = x14 at *
  generalize zat r 15 = x15 at *
  generalize zat r 18 = x18 at *
  generalize zat r 19 = x19 at *
  generalize r.length = lr at *
  generalize n.length = ln at *
  generalize L.length = nL at *
  go_enter Tryd.func16, Tryd.ntmps16
  go_wp2_with fail
  have QP : Hid (∀ nn, (w.drewN nn).cell? ⟨V, 0, none⟩ = some (.int .i64 p)) := fun nn => c0
  go_quiet (first
    | (go_at_call 28; with_reducible exact Calls.quiet_of_same (HC0.out _ (QP.out _))))
  go_wp2_with fail
  go_ret
  exact ⟨rfl, below_drewN HB0.out _⟩

set_option maxRecDepth 100000 in
set_option maxHeartbeats 4000000 in
theorem wrule_16 (p V : Nat) (L : List InsZ) (size out : Int) (r n : List Int) (aL : Option Addr) (cL : Nat) (ar : Option Addr) (cr : Nat) (an : Option Addr) (cn : Nat) (w : World) (H : VF p L size out r n) (hV : WW p V L size out r n aL cL ar cr an cn w) :
    Calls Tryd.prog 16 #[.pointer (some ⟨V, 0, none⟩), .int .i64 ((L.length + 16 : Nat) : Int)] w fun e w' => e = .returned (.int .i64 (ord1 p (zat r 15) (zat n 12))) ∧ Below w.heap.size w w' := by
  have h3 := H.h3
  have h4 := H.h4
  have e := em_I64 h3 h4
  have es := fun s f => (show I64 (smt p L s f) by have := smt_bd h3 L s f; unfold I64; omega)
  obtain ⟨br, orr, har, hrw⟩ := rowB_at hV.row H.hr
  subst har
  obtain ⟨bn, onn, han, hnw⟩ := rowB_at hV.nxt H.hn
  subst han
  have hh1 := H.h1
  have hl := H.hl
  have HX : Hid (∀ W, Below w.heap.size w W → (W.cell? ⟨V, 0, none⟩ = some (.int .i64 p) ∧ W.cell? ⟨V, 1, none⟩ = some (.int .i64 size) ∧ W.cell? ⟨V, 2, none⟩ = some (.slice aL L.length cL) ∧ W.cell? ⟨V, 3, none⟩ = some (.int .i64 out) ∧ W.cell? ⟨V, 4, none⟩ = some (.slice (some ⟨br, orr, none⟩) r.length cr) ∧ W.cell? ⟨V, 5, none⟩ = some (.slice (some ⟨bn, onn, none⟩) n.length cn) ∧ W.cell? ⟨br, orr + 15, none⟩ = some (.int .i64 (zat r 15)) ∧ W.cell? ⟨br, orr + 19, none⟩ = some (.int .i64 (zat r 19)) ∧ W.cell? ⟨bn, onn + 12, none⟩ = some (.int .i64 (zat n 12)) ∧ W.cell? ⟨bn, onn + 16, none⟩ = some (.int .i64 (zat n 16)))) := fun W h => by
    have hc := (hV.below h).cells
    exact ⟨hc.1, hc.2.1, hc.2.2.1, hc.2.2.2.1, hc.2.2.2.2.1, hc.2.2.2.2.2, (h.cell (p := ⟨br, orr + 15, none⟩) (World.block_lt_of_cell? _ _ (hrw 15 (by omega)))).trans (hrw 15 (by omega)), (h.cell (p := ⟨br, orr + 19, none⟩) (World.block_lt_of_cell? _ _ (hrw 19 (by omega)))).trans (hrw 19 (by omega)), (h.cell (p := ⟨bn, onn + 12, none⟩) (World.block_lt_of_cell? _ _ (hnw 12 (by omega)))).trans (hnw 12 (by omega)), (h.cell (p := ⟨bn, onn + 16, none⟩) (World.block_lt_of_cell? _ _ (hnw 16 (by omega)))).trans (hnw 16 (by omega))⟩
  have l15 : (15 : Int) < (r.length : Int) := by have := H.hr; omega
  have l19 : (19 : Int) < (r.length : Int) := by have := H.hr; omega
  have m12 : (12 : Int) < (n.length : Int) := by have := H.hn; omega
  have m16 : (16 : Int) < (n.length : Int) := by have := H.hn; omega
  obtain ⟨I, hI⟩ : ∃ I : Int, I = ((L.length + 16 : Nat) : Int) := ⟨_, rfl⟩
  rw [← hI]
  have f1 : ¬ I < (L.length : Int) := by omega
  have f2 : I - (L.length : Int) = 16 := by omega
  clear hI
  have HC0 : Hid (∀ W : World, W.cell? ⟨V, 0, none⟩ = some (.int .i64 p) → Calls Tryd.prog 28 #[.pointer (some ⟨V, 0, none⟩), .int .i64 (zat r 15), .int .i64 (zat r 19), .int .i64 (zat n 12), .int .i64 (zat n 16), .bool false] W fun e w' => e = .returned (.int .i64 (ord1 p (zat r 15) (zat n 12))) ∧ w' = W) := fun W h => worder_false p V _ _ _ _ W h3 h4 h (H.fr 15) (H.fr 19) (H.fn 12) (H.fn 16)
  have HB0 : Hid (Below w.heap.size w w) := Below.refl _ _
  obtain ⟨c0, c1, c2, c3, c4, c5, r15, r19, n12, n16⟩ := HX.out w HB0.out
  clear H hV hrw hnw e es hh1
  generalize (ord1 p (zat r 15) (zat n 12)) = t at *
  generalize zat r 15 = x15 at *
  generalize zat r 19 = x19 at *
  generalize zat n 12 = y12 at *
  generalize zat n 16 = y16 at *
  generalize r.length = lr at *
  generalize n.length = ln at *
  generalize L.length = nL at *
  go_enter Tryd.func16, Tryd.ntmps16
  go_wp2_with fail
  have QP : Hid (∀ nn, (w.drewN nn).cell? ⟨V, 0, none⟩ = some (.int .i64 p)) := fun nn => c0
  go_quiet (first
    | (go_at_call 28; with_reducible exact Calls.quiet_of_same (HC0.out _ (QP.out _))))
  go_wp2_with fail
  go_ret
  exact ⟨rfl, below_drewN HB0.out _⟩

set_option maxRecDepth 100000 in
set_option maxHeartbeats 4000000 in
theorem wrule_17 (p V : Nat) (L : List InsZ) (size out : Int) (r n : List Int) (aL : Option Addr) (cL : Nat) (ar : Option Addr) (cr : Nat) (an : Option Addr) (cn : Nat) (w : World) (H : VF p L size out r n) (hV : WW p V L size out r n aL cL ar cr an cn w) :
    Calls Tryd.prog 16 #[.pointer (some ⟨V, 0, none⟩), .int .i64 ((L.length + 17 : Nat) : Int)] w fun e w' => e = .returned (.int .i64 (ord2 p (zat r 15) (zat r 19) (zat n 12) (zat n 16))) ∧ Below w.heap.size w w' := by
  have h3 := H.h3
  have h4 := H.h4
  have e := em_I64 h3 h4
  have es := fun s f => (show I64 (smt p L s f) by have := smt_bd h3 L s f; unfold I64; omega)
  obtain ⟨br, orr, har, hrw⟩ := rowB_at hV.row H.hr
  subst har
  obtain ⟨bn, onn, han, hnw⟩ := rowB_at hV.nxt H.hn
  subst han
  have hh1 := H.h1
  have hl := H.hl
  have HX : Hid (∀ W, Below w.heap.size w W → (W.cell? ⟨V, 0, none⟩ = some (.int .i64 p) ∧ W.cell? ⟨V, 1, none⟩ = some (.int .i64 size) ∧ W.cell? ⟨V, 2, none⟩ = some (.slice aL L.length cL) ∧ W.cell? ⟨V, 3, none⟩ = some (.int .i64 out) ∧ W.cell? ⟨V, 4, none⟩ = some (.slice (some ⟨br, orr, none⟩) r.length cr) ∧ W.cell? ⟨V, 5, none⟩ = some (.slice (some ⟨bn, onn, none⟩) n.length cn) ∧ W.cell? ⟨br, orr + 15, none⟩ = some (.int .i64 (zat r 15)) ∧ W.cell? ⟨br, orr + 19, none⟩ = some (.int .i64 (zat r 19)) ∧ W.cell? ⟨bn, onn + 12, none⟩ = some (.int .i64 (zat n 12)) ∧ W.cell? ⟨bn, onn + 16, none⟩ = some (.int .i64 (zat n 16)))) := fun W h => by
    have hc := (hV.below h).cells
    exact ⟨hc.1, hc.2.1, hc.2.2.1, hc.2.2.2.1, hc.2.2.2.2.1, hc.2.2.2.2.2, (h.cell (p := ⟨br, orr + 15, none⟩) (World.block_lt_of_cell? _ _ (hrw 15 (by omega)))).trans (hrw 15 (by omega)), (h.cell (p := ⟨br, orr + 19, none⟩) (World.block_lt_of_cell? _ _ (hrw 19 (by omega)))).trans (hrw 19 (by omega)), (h.cell (p := ⟨bn, onn + 12, none⟩) (World.block_lt_of_cell? _ _ (hnw 12 (by omega)))).trans (hnw 12 (by omega)), (h.cell (p := ⟨bn, onn + 16, none⟩) (World.block_lt_of_cell? _ _ (hnw 16 (by omega)))).trans (hnw 16 (by omega))⟩
  have l15 : (15 : Int) < (r.length : Int) := by have := H.hr; omega
  have l19 : (19 : Int) < (r.length : Int) := by have := H.hr; omega
  have m12 : (12 : Int) < (n.length : Int) := by have := H.hn; omega
  have m16 : (16 : Int) < (n.length : Int) := by have := H.hn; omega
  obtain ⟨I, hI⟩ : ∃ I : Int, I = ((L.length + 17 : Nat) : Int) := ⟨_, rfl⟩
  rw [← hI]
  have f1 : ¬ I < (L.length : Int) := by omega
  have f2 : I - (L.length : Int) = 17 := by omega
  clear hI
  have HC0 : Hid (∀ W : World, W.cell? ⟨V, 0, none⟩ = some (.int .i64 p) → Calls Tryd.prog 28 #[.pointer (some ⟨V, 0, none⟩), .int .i64 (zat r 15), .int .i64 (zat r 19), .int .i64 (zat n 12), .int .i64 (zat n 16), .bool true] W fun e w' => e = .returned (.int .i64 (ord2 p (zat r 15) (zat r 19) (zat n 12) (zat n 16))) ∧ w' = W) := fun W h => worder_true p V _ _ _ _ W h3 h4 h (H.fr 15) (H.fr 19) (H.fn 12) (H.fn 16)
  have HB0 : Hid (Below w.heap.size w w) := Below.refl _ _
  obtain ⟨c0, c1, c2, c3, c4, c5, r15, r19, n12, n16⟩ := HX.out w HB0.out
  clear H hV hrw hnw e es hh1
  generalize (ord2 p (zat r 15) (zat r 19) (zat n 12) (zat n 16)) = t at *
  generalize zat r 15 = x15 at *
  generalize zat r 19 = x19 at *
  generalize zat n 12 = y12 at *
  generalize zat n 16 = y16 at *
  generalize r.length = lr at *
  generalize n.length = ln at *
  generalize L.length = nL at *
  go_enter Tryd.func16, Tryd.ntmps16
  go_wp2_with fail
  have QP : Hid (∀ nn, (w.drewN nn).cell? ⟨V, 0, none⟩ = some (.int .i64 p)) := fun nn => c0
  go_quiet (first
    | (go_at_call 28; with_reducible exact Calls.quiet_of_same (HC0.out _ (QP.out _))))
  go_wp2_with fail
  go_ret
  exact ⟨rfl, below_drewN HB0.out _⟩

set_option maxRecDepth 100000 in
set_option maxHeartbeats 4000000 in
theorem wrule_18 (p V : Nat) (L : List InsZ) (size out : Int) (r n : List Int) (aL : Option Addr) (cL : Nat) (ar : Option Addr) (cr : Nat) (an : Option Addr) (cn : Nat) (w : World) (H : VF p L size out r n) (hV : WW p V L size out r n aL cL ar cr an cn w) :
    Calls Tryd.prog 16 #[.pointer (some ⟨V, 0, none⟩), .int .i64 ((L.length + 18 : Nat) : Int)] w fun e w' => e = .returned (.int .i64 ((zat r 20 - 1) % (p : Int))) ∧ Below w.heap.size w w' := by
  have h3 := H.h3
  have h4 := H.h4
  have e := em_I64 h3 h4
  have es := fun s f => (show I64 (smt p L s f) by have := smt_bd h3 L s f; unfold I64; omega)
  obtain ⟨br, orr, har, hrw⟩ := rowB_at hV.row H.hr
  subst har
  obtain ⟨bn, onn, han, hnw⟩ := rowB_at hV.nxt H.hn
  subst han
  have hh1 := H.h1
  have hl := H.hl
  have HX : Hid (∀ W, Below w.heap.size w W → (W.cell? ⟨V, 0, none⟩ = some (.int .i64 p) ∧ W.cell? ⟨V, 1, none⟩ = some (.int .i64 size) ∧ W.cell? ⟨V, 2, none⟩ = some (.slice aL L.length cL) ∧ W.cell? ⟨V, 3, none⟩ = some (.int .i64 out) ∧ W.cell? ⟨V, 4, none⟩ = some (.slice (some ⟨br, orr, none⟩) r.length cr) ∧ W.cell? ⟨V, 5, none⟩ = some (.slice (some ⟨bn, onn, none⟩) n.length cn))) := fun W h => by
    have hc := (hV.below h).cells
    exact ⟨hc.1, hc.2.1, hc.2.2.1, hc.2.2.2.1, hc.2.2.2.2.1, hc.2.2.2.2.2⟩
  obtain ⟨I, hI⟩ : ∃ I : Int, I = ((L.length + 18 : Nat) : Int) := ⟨_, rfl⟩
  rw [← hI]
  have f1 : ¬ I < (L.length : Int) := by omega
  have f2 : I - (L.length : Int) = 18 := by omega
  clear hI
  have HC0 : Hid (∀ W, Below w.heap.size w W → Calls Tryd.prog 29 #[.pointer (some ⟨V, 0, none⟩), .int .i64 18] W fun e w' => e = .returned (.int .i64 ((zat r 20 - 1) % (p : Int))) ∧ Below W.heap.size W w') := fun W h => wedge_18 p V L size out r n aL cL (some ⟨br, orr, none⟩) cr (some ⟨bn, onn, none⟩) cn W H (hV.below h)
  have HB0 : Hid (Below w.heap.size w w) := Below.refl _ _
  obtain ⟨c0, c1, c2, c3, c4, c5⟩ := HX.out w HB0.out
  clear H hV hrw hnw e es hh1
  generalize ((zat r 20 - 1) % (p : Int)) = t at *
  generalize r.length = lr at *
  generalize n.length = ln at *
  generalize L.length = nL at *
  go_enter Tryd.func16, Tryd.ntmps16
  go_wp2_with fail
  refine (HC0.out _ HB0.out).mono ?_
  rintro e w1 ⟨rfl, hb⟩
  have HB1 := hid (HB0.out.trans (hb.mono HB0.out.size))
  clear hb c0 c1 c2 c3 c4 c5
  obtain ⟨c0, c1, c2, c3, c4, c5⟩ := HX.out w1 HB1.out
  go_wp2_with fail
  go_ret
  exact ⟨rfl, HB1.out⟩

set_option maxRecDepth 100000 in
set_option maxHeartbeats 4000000 in
theorem wrule_19 (p V : Nat) (L : List InsZ) (size out : Int) (r n : List Int) (aL : Option Addr) (cL : Nat) (ar : Option Addr) (cr : Nat) (an : Option Addr) (cn : Nat) (w : World) (H : VF p L size out r n) (hV : WW p V L size out r n aL cL ar cr an cn w) :
    Calls Tryd.prog 16 #[.pointer (some ⟨V, 0, none⟩), .int .i64 ((L.length + 19 : Nat) : Int)] w fun e w' => e = .returned (.int .i64 ((zat r 0 - 1) % (p : Int))) ∧ Below w.heap.size w w' := by
  have h3 := H.h3
  have h4 := H.h4
  have e := em_I64 h3 h4
  have es := fun s f => (show I64 (smt p L s f) by have := smt_bd h3 L s f; unfold I64; omega)
  obtain ⟨br, orr, har, hrw⟩ := rowB_at hV.row H.hr
  subst har
  obtain ⟨bn, onn, han, hnw⟩ := rowB_at hV.nxt H.hn
  subst han
  have hh1 := H.h1
  have hl := H.hl
  have HX : Hid (∀ W, Below w.heap.size w W → (W.cell? ⟨V, 0, none⟩ = some (.int .i64 p) ∧ W.cell? ⟨V, 1, none⟩ = some (.int .i64 size) ∧ W.cell? ⟨V, 2, none⟩ = some (.slice aL L.length cL) ∧ W.cell? ⟨V, 3, none⟩ = some (.int .i64 out) ∧ W.cell? ⟨V, 4, none⟩ = some (.slice (some ⟨br, orr, none⟩) r.length cr) ∧ W.cell? ⟨V, 5, none⟩ = some (.slice (some ⟨bn, onn, none⟩) n.length cn))) := fun W h => by
    have hc := (hV.below h).cells
    exact ⟨hc.1, hc.2.1, hc.2.2.1, hc.2.2.2.1, hc.2.2.2.2.1, hc.2.2.2.2.2⟩
  obtain ⟨I, hI⟩ : ∃ I : Int, I = ((L.length + 19 : Nat) : Int) := ⟨_, rfl⟩
  rw [← hI]
  have f1 : ¬ I < (L.length : Int) := by omega
  have f2 : I - (L.length : Int) = 19 := by omega
  clear hI
  have HC0 : Hid (∀ W, Below w.heap.size w W → Calls Tryd.prog 29 #[.pointer (some ⟨V, 0, none⟩), .int .i64 19] W fun e w' => e = .returned (.int .i64 ((zat r 0 - 1) % (p : Int))) ∧ Below W.heap.size W w') := fun W h => wedge_19 p V L size out r n aL cL (some ⟨br, orr, none⟩) cr (some ⟨bn, onn, none⟩) cn W H (hV.below h)
  have HB0 : Hid (Below w.heap.size w w) := Below.refl _ _
  obtain ⟨c0, c1, c2, c3, c4, c5⟩ := HX.out w HB0.out
  clear H hV hrw hnw e es hh1
  generalize ((zat r 0 - 1) % (p : Int)) = t at *
  generalize r.length = lr at *
  generalize n.length = ln at *
  generalize L.length = nL at *
  go_enter Tryd.func16, Tryd.ntmps16
  go_wp2_with fail
  refine (HC0.out _ HB0.out).mono ?_
  rintro e w1 ⟨rfl, hb⟩
  have HB1 := hid (HB0.out.trans (hb.mono HB0.out.size))
  clear hb c0 c1 c2 c3 c4 c5
  obtain ⟨c0, c1, c2, c3, c4, c5⟩ := HX.out w1 HB1.out
  go_wp2_with fail
  go_ret
  exact ⟨rfl, HB1.out⟩

set_option maxRecDepth 100000 in
set_option maxHeartbeats 4000000 in
theorem wrule_20 (p V : Nat) (L : List InsZ) (size out : Int) (r n : List Int) (aL : Option Addr) (cL : Nat) (ar : Option Addr) (cr : Nat) (an : Option Addr) (cn : Nat) (w : World) (H : VF p L size out r n) (hV : WW p V L size out r n aL cL ar cr an cn w) :
    Calls Tryd.prog 16 #[.pointer (some ⟨V, 0, none⟩), .int .i64 ((L.length + 20 : Nat) : Int)] w fun e w' => e = .returned (.int .i64 ((zat r 1 - 1 - size) % (p : Int))) ∧ Below w.heap.size w w' := by
  have h3 := H.h3
  have h4 := H.h4
  have e := em_I64 h3 h4
  have es := fun s f => (show I64 (smt p L s f) by have := smt_bd h3 L s f; unfold I64; omega)
  obtain ⟨br, orr, har, hrw⟩ := rowB_at hV.row H.hr
  subst har
  obtain ⟨bn, onn, han, hnw⟩ := rowB_at hV.nxt H.hn
  subst han
  have hh1 := H.h1
  have hl := H.hl
  have HX : Hid (∀ W, Below w.heap.size w W → (W.cell? ⟨V, 0, none⟩ = some (.int .i64 p) ∧ W.cell? ⟨V, 1, none⟩ = some (.int .i64 size) ∧ W.cell? ⟨V, 2, none⟩ = some (.slice aL L.length cL) ∧ W.cell? ⟨V, 3, none⟩ = some (.int .i64 out) ∧ W.cell? ⟨V, 4, none⟩ = some (.slice (some ⟨br, orr, none⟩) r.length cr) ∧ W.cell? ⟨V, 5, none⟩ = some (.slice (some ⟨bn, onn, none⟩) n.length cn))) := fun W h => by
    have hc := (hV.below h).cells
    exact ⟨hc.1, hc.2.1, hc.2.2.1, hc.2.2.2.1, hc.2.2.2.2.1, hc.2.2.2.2.2⟩
  obtain ⟨I, hI⟩ : ∃ I : Int, I = ((L.length + 20 : Nat) : Int) := ⟨_, rfl⟩
  rw [← hI]
  have f1 : ¬ I < (L.length : Int) := by omega
  have f2 : I - (L.length : Int) = 20 := by omega
  clear hI
  have HC0 : Hid (∀ W, Below w.heap.size w W → Calls Tryd.prog 29 #[.pointer (some ⟨V, 0, none⟩), .int .i64 20] W fun e w' => e = .returned (.int .i64 ((zat r 1 - 1 - size) % (p : Int))) ∧ Below W.heap.size W w') := fun W h => wedge_20 p V L size out r n aL cL (some ⟨br, orr, none⟩) cr (some ⟨bn, onn, none⟩) cn W H (hV.below h)
  have HB0 : Hid (Below w.heap.size w w) := Below.refl _ _
  obtain ⟨c0, c1, c2, c3, c4, c5⟩ := HX.out w HB0.out
  clear H hV hrw hnw e es hh1
  generalize ((zat r 1 - 1 - size) % (p : Int)) = t at *
  generalize r.length = lr at *
  generalize n.length = ln at *
  generalize L.length = nL at *
  go_enter Tryd.func16, Tryd.ntmps16
  go_wp2_with fail
  refine (HC0.out _ HB0.out).mono ?_
  rintro e w1 ⟨rfl, hb⟩
  have HB1 := hid (HB0.out.trans (hb.mono HB0.out.size))
  clear hb c0 c1 c2 c3 c4 c5
  obtain ⟨c0, c1, c2, c3, c4, c5⟩ := HX.out w1 HB1.out
  go_wp2_with fail
  go_ret
  exact ⟨rfl, HB1.out⟩

set_option maxRecDepth 100000 in
set_option maxHeartbeats 4000000 in
theorem wrule_21 (p V : Nat) (L : List InsZ) (size out : Int) (r n : List Int) (aL : Option Addr) (cL : Nat) (ar : Option Addr) (cr : Nat) (an : Option Addr) (cn : Nat) (w : World) (H : VF p L size out r n) (hV : WW p V L size out r n aL cL ar cr an cn w) :
    Calls Tryd.prog 16 #[.pointer (some ⟨V, 0, none⟩), .int .i64 ((L.length + 21 : Nat) : Int)] w fun e w' => e = .returned (.int .i64 (zat r 2 % (p : Int))) ∧ Below w.heap.size w w' := by
  have h3 := H.h3
  have h4 := H.h4
  have e := em_I64 h3 h4
  have es := fun s f => (show I64 (smt p L s f) by have := smt_bd h3 L s f; unfold I64; omega)
  obtain ⟨br, orr, har, hrw⟩ := rowB_at hV.row H.hr
  subst har
  obtain ⟨bn, onn, han, hnw⟩ := rowB_at hV.nxt H.hn
  subst han
  have hh1 := H.h1
  have hl := H.hl
  have HX : Hid (∀ W, Below w.heap.size w W → (W.cell? ⟨V, 0, none⟩ = some (.int .i64 p) ∧ W.cell? ⟨V, 1, none⟩ = some (.int .i64 size) ∧ W.cell? ⟨V, 2, none⟩ = some (.slice aL L.length cL) ∧ W.cell? ⟨V, 3, none⟩ = some (.int .i64 out) ∧ W.cell? ⟨V, 4, none⟩ = some (.slice (some ⟨br, orr, none⟩) r.length cr) ∧ W.cell? ⟨V, 5, none⟩ = some (.slice (some ⟨bn, onn, none⟩) n.length cn))) := fun W h => by
    have hc := (hV.below h).cells
    exact ⟨hc.1, hc.2.1, hc.2.2.1, hc.2.2.2.1, hc.2.2.2.2.1, hc.2.2.2.2.2⟩
  obtain ⟨I, hI⟩ : ∃ I : Int, I = ((L.length + 21 : Nat) : Int) := ⟨_, rfl⟩
  rw [← hI]
  have f1 : ¬ I < (L.length : Int) := by omega
  have f2 : I - (L.length : Int) = 21 := by omega
  clear hI
  have HC0 : Hid (∀ W, Below w.heap.size w W → Calls Tryd.prog 29 #[.pointer (some ⟨V, 0, none⟩), .int .i64 21] W fun e w' => e = .returned (.int .i64 (zat r 2 % (p : Int))) ∧ Below W.heap.size W w') := fun W h => wedge_21 p V L size out r n aL cL (some ⟨br, orr, none⟩) cr (some ⟨bn, onn, none⟩) cn W H (hV.below h)
  have HB0 : Hid (Below w.heap.size w w) := Below.refl _ _
  obtain ⟨c0, c1, c2, c3, c4, c5⟩ := HX.out w HB0.out
  clear H hV hrw hnw e es hh1
  generalize (zat r 2 % (p : Int)) = t at *
  generalize r.length = lr at *
  generalize n.length = ln at *
  generalize L.length = nL at *
  go_enter Tryd.func16, Tryd.ntmps16
  go_wp2_with fail
  refine (HC0.out _ HB0.out).mono ?_
  rintro e w1 ⟨rfl, hb⟩
  have HB1 := hid (HB0.out.trans (hb.mono HB0.out.size))
  clear hb c0 c1 c2 c3 c4 c5
  obtain ⟨c0, c1, c2, c3, c4, c5⟩ := HX.out w1 HB1.out
  go_wp2_with fail
  go_ret
  exact ⟨rfl, HB1.out⟩

set_option maxRecDepth 100000 in
set_option maxHeartbeats 4000000 in
theorem wrule_22 (p V : Nat) (L : List InsZ) (size out : Int) (r n : List Int) (aL : Option Addr) (cL : Nat) (ar : Option Addr) (cr : Nat) (an : Option Addr) (cn : Nat) (w : World) (H : VF p L size out r n) (hV : WW p V L size out r n aL cL ar cr an cn w) :
    Calls Tryd.prog 16 #[.pointer (some ⟨V, 0, none⟩), .int .i64 ((L.length + 22 : Nat) : Int)] w fun e w' => e = .returned (.int .i64 (zat r 12 % (p : Int))) ∧ Below w.heap.size w w' := by
  have h3 := H.h3
  have h4 := H.h4
  have e := em_I64 h3 h4
  have es := fun s f => (show I64 (smt p L s f) by have := smt_bd h3 L s f; unfold I64; omega)
  obtain ⟨br, orr, har, hrw⟩ := rowB_at hV.row H.hr
  subst har
  obtain ⟨bn, onn, han, hnw⟩ := rowB_at hV.nxt H.hn
  subst han
  have hh1 := H.h1
  have hl := H.hl
  have HX : Hid (∀ W, Below w.heap.size w W → (W.cell? ⟨V, 0, none⟩ = some (.int .i64 p) ∧ W.cell? ⟨V, 1, none⟩ = some (.int .i64 size) ∧ W.cell? ⟨V, 2, none⟩ = some (.slice aL L.length cL) ∧ W.cell? ⟨V, 3, none⟩ = some (.int .i64 out) ∧ W.cell? ⟨V, 4, none⟩ = some (.slice (some ⟨br, orr, none⟩) r.length cr) ∧ W.cell? ⟨V, 5, none⟩ = some (.slice (some ⟨bn, onn, none⟩) n.length cn))) := fun W h => by
    have hc := (hV.below h).cells
    exact ⟨hc.1, hc.2.1, hc.2.2.1, hc.2.2.2.1, hc.2.2.2.2.1, hc.2.2.2.2.2⟩
  obtain ⟨I, hI⟩ : ∃ I : Int, I = ((L.length + 22 : Nat) : Int) := ⟨_, rfl⟩
  rw [← hI]
  have f1 : ¬ I < (L.length : Int) := by omega
  have f2 : I - (L.length : Int) = 22 := by omega
  clear hI
  have HC0 : Hid (∀ W, Below w.heap.size w W → Calls Tryd.prog 29 #[.pointer (some ⟨V, 0, none⟩), .int .i64 22] W fun e w' => e = .returned (.int .i64 (zat r 12 % (p : Int))) ∧ Below W.heap.size W w') := fun W h => wedge_22 p V L size out r n aL cL (some ⟨br, orr, none⟩) cr (some ⟨bn, onn, none⟩) cn W H (hV.below h)
  have HB0 : Hid (Below w.heap.size w w) := Below.refl _ _
  obtain ⟨c0, c1, c2, c3, c4, c5⟩ := HX.out w HB0.out
  clear H hV hrw hnw e es hh1
  generalize (zat r 12 % (p : Int)) = t at *
  generalize r.length = lr at *
  generalize n.length = ln at *
  generalize L.length = nL at *
  go_enter Tryd.func16, Tryd.ntmps16
  go_wp2_with fail
  refine (HC0.out _ HB0.out).mono ?_
  rintro e w1 ⟨rfl, hb⟩
  have HB1 := hid (HB0.out.trans (hb.mono HB0.out.size))
  clear hb c0 c1 c2 c3 c4 c5
  obtain ⟨c0, c1, c2, c3, c4, c5⟩ := HX.out w1 HB1.out
  go_wp2_with fail
  go_ret
  exact ⟨rfl, HB1.out⟩

set_option maxRecDepth 100000 in
set_option maxHeartbeats 4000000 in
theorem wrule_23 (p V : Nat) (L : List InsZ) (size out : Int) (r n : List Int) (aL : Option Addr) (cL : Nat) (ar : Option Addr) (cr : Nat) (an : Option Addr) (cn : Nat) (w : World) (H : VF p L size out r n) (hV : WW p V L size out r n aL cL ar cr an cn w) :
    Calls Tryd.prog 16 #[.pointer (some ⟨V, 0, none⟩), .int .i64 ((L.length + 23 : Nat) : Int)] w fun e w' => e = .returned (.int .i64 (zat r 16 % (p : Int))) ∧ Below w.heap.size w w' := by
  have h3 := H.h3
  have h4 := H.h4
  have e := em_I64 h3 h4
  have es := fun s f => (show I64 (smt p L s f) by have := smt_bd h3 L s f; unfold I64; omega)
  obtain ⟨br, orr, har, hrw⟩ := rowB_at hV.row H.hr
  subst har
  obtain ⟨bn, onn, han, hnw⟩ := rowB_at hV.nxt H.hn
  subst han
  have hh1 := H.h1
  have hl := H.hl
  have HX : Hid (∀ W, Below w.heap.size w W → (W.cell? ⟨V, 0, none⟩ = some (.int .i64 p) ∧ W.cell? ⟨V, 1, none⟩ = some (.int .i64 size) ∧ W.cell? ⟨V, 2, none⟩ = some (.slice aL L.length cL) ∧ W.cell? ⟨V, 3, none⟩ = some (.int .i64 out) ∧ W.cell? ⟨V, 4, none⟩ = some (.slice (some ⟨br, orr, none⟩) r.length cr) ∧ W.cell? ⟨V, 5, none⟩ = some (.slice (some ⟨bn, onn, none⟩) n.length cn))) := fun W h => by
    have hc := (hV.below h).cells
    exact ⟨hc.1, hc.2.1, hc.2.2.1, hc.2.2.2.1, hc.2.2.2.2.1, hc.2.2.2.2.2⟩
  obtain ⟨I, hI⟩ : ∃ I : Int, I = ((L.length + 23 : Nat) : Int) := ⟨_, rfl⟩
  rw [← hI]
  have f1 : ¬ I < (L.length : Int) := by omega
  have f2 : I - (L.length : Int) = 23 := by omega
  clear hI
  have HC0 : Hid (∀ W, Below w.heap.size w W → Calls Tryd.prog 29 #[.pointer (some ⟨V, 0, none⟩), .int .i64 23] W fun e w' => e = .returned (.int .i64 (zat r 16 % (p : Int))) ∧ Below W.heap.size W w') := fun W h => wedge_23 p V L size out r n aL cL (some ⟨br, orr, none⟩) cr (some ⟨bn, onn, none⟩) cn W H (hV.below h)
  have HB0 : Hid (Below w.heap.size w w) := Below.refl _ _
  obtain ⟨c0, c1, c2, c3, c4, c5⟩ := HX.out w HB0.out
  clear H hV hrw hnw e es hh1
  generalize (zat r 16 % (p : Int)) = t at *
  generalize r.length = lr at *
  generalize n.length = ln at *
  generalize L.length = nL at *
  go_enter Tryd.func16, Tryd.ntmps16
  go_wp2_with fail
  refine (HC0.out _ HB0.out).mono ?_
  rintro e w1 ⟨rfl, hb⟩
  have HB1 := hid (HB0.out.trans (hb.mono HB0.out.size))
  clear hb c0 c1 c2 c3 c4 c5
  obtain ⟨c0, c1, c2, c3, c4, c5⟩ := HX.out w1 HB1.out
  go_wp2_with fail
  go_ret
  exact ⟨rfl, HB1.out⟩

set_option maxRecDepth 100000 in
set_option maxHeartbeats 4000000 in
theorem wrule_24 (p V : Nat) (L : List InsZ) (size out : Int) (r n : List Int) (aL : Option Addr) (cL : Nat) (ar : Option Addr) (cr : Nat) (an : Option Addr) (cn : Nat) (w : World) (H : VF p L size out r n) (hV : WW p V L size out r n aL cL ar cr an cn w) :
    Calls Tryd.prog 16 #[.pointer (some ⟨V, 0, none⟩), .int .i64 ((L.length + 24 : Nat) : Int)] w fun e w' => e = .returned (.int .i64 ((smt p L r (fun _ => tvH) - 1) % (p : Int))) ∧ Below w.heap.size w w' := by
  have h3 := H.h3
  have h4 := H.h4
  have e := em_I64 h3 h4
  have es := fun s f => (show I64 (smt p L s f) by have := smt_bd h3 L s f; unfold I64; omega)
  obtain ⟨br, orr, har, hrw⟩ := rowB_at hV.row H.hr
  subst har
  obtain ⟨bn, onn, han, hnw⟩ := rowB_at hV.nxt H.hn
  subst han
  have hh1 := H.h1
  have hl := H.hl
  have HX : Hid (∀ W, Below w.heap.size w W → (W.cell? ⟨V, 0, none⟩ = some (.int .i64 p) ∧ W.cell? ⟨V, 1, none⟩ = some (.int .i64 size) ∧ W.cell? ⟨V, 2, none⟩ = some (.slice aL L.length cL) ∧ W.cell? ⟨V, 3, none⟩ = some (.int .i64 out) ∧ W.cell? ⟨V, 4, none⟩ = some (.slice (some ⟨br, orr, none⟩) r.length cr) ∧ W.cell? ⟨V, 5, none⟩ = some (.slice (some ⟨bn, onn, none⟩) n.length cn))) := fun W h => by
    have hc := (hV.below h).cells
    exact ⟨hc.1, hc.2.1, hc.2.2.1, hc.2.2.2.1, hc.2.2.2.2.1, hc.2.2.2.2.2⟩
  obtain ⟨I, hI⟩ : ∃ I : Int, I = ((L.length + 24 : Nat) : Int) := ⟨_, rfl⟩
  rw [← hI]
  have f1 : ¬ I < (L.length : Int) := by omega
  have f2 : I - (L.length : Int) = 24 := by omega
  clear hI
  have HC0 : Hid (∀ W, Below w.heap.size w W → Calls Tryd.prog 29 #[.pointer (some ⟨V, 0, none⟩), .int .i64 24] W fun e w' => e = .returned (.int .i64 ((smt p L r (fun _ => tvH) - 1) % (p : Int))) ∧ Below W.heap.size W w') := fun W h => wedge_24 p V L size out r n aL cL (some ⟨br, orr, none⟩) cr (some ⟨bn, onn, none⟩) cn W H (hV.below h)
  have HB0 : Hid (Below w.heap.size w w) := Below.refl _ _
  obtain ⟨c0, c1, c2, c3, c4, c5⟩ := HX.out w HB0.out
  clear H hV hrw hnw e es hh1
  generalize ((smt p L r (fun _ => tvH) - 1) % (p : Int)) = t at *
  generalize r.length = lr at *
  generalize n.length = ln at *
  generalize L.length = nL at *
  go_enter Tryd.func16, Tryd.ntmps16
  go_wp2_with fail
  refine (HC0.out _ HB0.out).mono ?_
  rintro e w1 ⟨rfl, hb⟩
  have HB1 := hid (HB0.out.trans (hb.mono HB0.out.size))
  clear hb c0 c1 c2 c3 c4 c5
  obtain ⟨c0, c1, c2, c3, c4, c5⟩ := HX.out w1 HB1.out
  go_wp2_with fail
  go_ret
  exact ⟨rfl, HB1.out⟩

set_option maxRecDepth 100000 in
set_option maxHeartbeats 4000000 in
theorem wrule_25 (p V : Nat) (L : List InsZ) (size out : Int) (r n : List Int) (aL : Option Addr) (cL : Nat) (ar : Option Addr) (cr : Nat) (an : Option Addr) (cn : Nat) (w : World) (H : VF p L size out r n) (hV : WW p V L size out r n aL cL ar cr an cn w) :
    Calls Tryd.prog 16 #[.pointer (some ⟨V, 0, none⟩), .int .i64 ((L.length + 25 : Nat) : Int)] w fun e w' => e = .returned (.int .i64 ((zat r 7 - out) % (p : Int))) ∧ Below w.heap.size w w' := by
  have h3 := H.h3
  have h4 := H.h4
  have e := em_I64 h3 h4
  have es := fun s f => (show I64 (smt p L s f) by have := smt_bd h3 L s f; unfold I64; omega)
  obtain ⟨br, orr, har, hrw⟩ := rowB_at hV.row H.hr
  subst har
  obtain ⟨bn, onn, han, hnw⟩ := rowB_at hV.nxt H.hn
  subst han
  have hh1 := H.h1
  have hl := H.hl
  have HX : Hid (∀ W, Below w.heap.size w W → (W.cell? ⟨V, 0, none⟩ = some (.int .i64 p) ∧ W.cell? ⟨V, 1, none⟩ = some (.int .i64 size) ∧ W.cell? ⟨V, 2, none⟩ = some (.slice aL L.length cL) ∧ W.cell? ⟨V, 3, none⟩ = some (.int .i64 out) ∧ W.cell? ⟨V, 4, none⟩ = some (.slice (some ⟨br, orr, none⟩) r.length cr) ∧ W.cell? ⟨V, 5, none⟩ = some (.slice (some ⟨bn, onn, none⟩) n.length cn))) := fun W h => by
    have hc := (hV.below h).cells
    exact ⟨hc.1, hc.2.1, hc.2.2.1, hc.2.2.2.1, hc.2.2.2.2.1, hc.2.2.2.2.2⟩
  obtain ⟨I, hI⟩ : ∃ I : Int, I = ((L.length + 25 : Nat) : Int) := ⟨_, rfl⟩
  rw [← hI]
  have f1 : ¬ I < (L.length : Int) := by omega
  have f2 : I - (L.length : Int) = 25 := by omega
  clear hI
  have HC0 : Hid (∀ W, Below w.heap.size w W → Calls Tryd.prog 29 #[.pointer (some ⟨V, 0, none⟩), .int .i64 25] W fun e w' => e = .returned (.int .i64 ((zat r 7 - out) % (p : Int))) ∧ Below W.heap.size W w') := fun W h => wedge_25 p V L size out r n aL cL (some ⟨br, orr, none⟩) cr (some ⟨bn, onn, none⟩) cn W H (hV.below h)
  have HB0 : Hid (Below w.heap.size w w) := Below.refl _ _
  obtain ⟨c0, c1, c2, c3, c4, c5⟩ := HX.out w HB0.out
  clear H hV hrw hnw e es hh1
  generalize ((zat r 7 - out) % (p : Int)) = t at *
  generalize r.length = lr at *
  generalize n.length = ln at *
  generalize L.length = nL at *
  go_enter Tryd.func16, Tryd.ntmps16
  go_wp2_with fail
  refine (HC0.out _ HB0.out).mono ?_
  rintro e w1 ⟨rfl, hb⟩
  have HB1 := hid (HB0.out.trans (hb.mono HB0.out.size))
  clear hb c0 c1 c2 c3 c4 c5
  obtain ⟨c0, c1, c2, c3, c4, c5⟩ := HX.out w1 HB1.out
  go_wp2_with fail
  go_ret
  exact ⟨rfl, HB1.out⟩

end Go.Proofs.YtaibngnabhmabajDoor
