/- The reference: what is summed up of an instruction. Package rules: the cells of an instruction; sums of terms. -/
import Derived.Test.YtaibngnabhmabajDoorRyB0
import Derived.Test.YtaibngnabhmabajDoorRyB1
import Derived.Test.YtaibngnabhmabajDoorRyB2
import Derived.Test.YtaibngnabhmabajDoorRyC
import Derived.Test.YtaibngnabhmabajDoorBbAJ
import Derived.Test.YtaibngnabhmabajDoorBbAI
import Derived.Deep.RegionHeld3
namespace Go.Proofs.YtaibngnabhmabajDoor
open Go.RowKit Go.Maps


theorem wcell0_any (p V : Nat) (L : List InsZ) (size out : Int) (r n : List Int) (aL : Option Addr) (cL : Nat) (ar : Option Addr) (cr : Nat) (an : Option Addr) (cn : Nat) (w : World) (H : VF p L size out r n) (hV : WW p V L size out r n aL cL ar cr an cn w) (op ia ib ic : Int) (hi : I64 ia ∧ I64 ib ∧ I64 ic) :
    Calls Tryd.prog 45 #[.pointer (some ⟨V, 0, none⟩), .agg #[.int .i64 op, .int .i64 ia, .int .i64 ib, .int .i64 ic], .int .i64 0] w fun e w' => e = .returned (.int .i64 (tvC p r 0 ⟨op, ia, ib, ic⟩)) ∧ Below w.heap.size w w' := by
  by_cases g0 : op = 0; · subst g0; exact wcell0_0 p V L size out r n aL cL ar cr an cn w H hV ia ib ic hi
  by_cases g1 : op = 1; · subst g1; exact wcell0_1 p V L size out r n aL cL ar cr an cn w H hV ia ib ic hi
  by_cases g2 : op = 2; · subst g2; exact wcell0_2 p V L size out r n aL cL ar cr an cn w H hV ia ib ic hi
  by_cases g3 : op = 3; · subst g3; exact wcell0_3 p V L size out r n aL cL ar cr an cn w H hV ia ib ic hi
  by_cases g4 : op = 4; · subst g4; exact wcell0_4 p V L size out r n aL cL ar cr an cn w H hV ia ib ic hi
  by_cases g5 : op = 5; · subst g5; exact wcell0_5 p V L size out r n aL cL ar cr an cn w H hV ia ib ic hi
  by_cases g6 : op = 6; · subst g6; exact wcell0_6 p V L size out r n aL cL ar cr an cn w H hV ia ib ic hi
  by_cases g7 : op = 7; · subst g7; exact wcell0_7 p V L size out r n aL cL ar cr an cn w H hV ia ib ic hi
  by_cases g8 : op = 8; · subst g8; exact wcell0_8 p V L size out r n aL cL ar cr an cn w H hV ia ib ic hi
  by_cases g9 : op = 9; · subst g9; exact wcell0_9 p V L size out r n aL cL ar cr an cn w H hV ia ib ic hi
  by_cases g10 : op = 10; · subst g10; exact wcell0_10 p V L size out r n aL cL ar cr an cn w H hV ia ib ic hi
  by_cases g11 : op = 11; · subst g11; exact wcell0_11 p V L size out r n aL cL ar cr an cn w H hV ia ib ic hi
  by_cases g12 : op = 12; · subst g12; exact wcell0_12 p V L size out r n aL cL ar cr an cn w H hV ia ib ic hi
  by_cases g13 : op = 13; · subst g13; exact wcell0_13 p V L size out r n aL cL ar cr an cn w H hV ia ib ic hi
  exact wcell0_x p V L size out r n aL cL ar cr an cn w H hV ia ib ic hi op ⟨g0, g1, g2, g3, g4, g5, g6, g7, g9, g10, g11, g12, g13⟩
theorem wcell1_any (p V : Nat) (L : List InsZ) (size out : Int) (r n : List Int) (aL : Option Addr) (cL : Nat) (ar : Option Addr) (cr : Nat) (an : Option Addr) (cn : Nat) (w : World) (H : VF p L size out r n) (hV : WW p V L size out r n aL cL ar cr an cn w) (op ia ib ic : Int) (hi : I64 ia ∧ I64 ib ∧ I64 ic) :
    Calls Tryd.prog 45 #[.pointer (some ⟨V, 0, none⟩), .agg #[.int .i64 op, .int .i64 ia, .int .i64 ib, .int .i64 ic], .int .i64 1] w fun e w' => e = .returned (.int .i64 (tvC p r 1 ⟨op, ia, ib, ic⟩)) ∧ Below w.heap.size w w' := by
  by_cases g0 : op = 0; · subst g0; exact wcell1_0 p V L size out r n aL cL ar cr an cn w H hV ia ib ic hi
  by_cases g1 : op = 1; · subst g1; exact wcell1_1 p V L size out r n aL cL ar cr an cn w H hV ia ib ic hi
  by_cases g2 : op = 2; · subst g2; exact wcell1_2 p V L size out r n aL cL ar cr an cn w H hV ia ib ic hi
  by_cases g3 : op = 3; · subst g3; exact wcell1_3 p V L size out r n aL cL ar cr an cn w H hV ia ib ic hi
  by_cases g4 : op = 4; · subst g4; exact wcell1_4 p V L size out r n aL cL ar cr an cn w H hV ia ib ic hi
  by_cases g5 : op = 5; · subst g5; exact wcell1_5 p V L size out r n aL cL ar cr an cn w H hV ia ib ic hi
  by_cases g6 : op = 6; · subst g6; exact wcell1_6 p V L size out r n aL cL ar cr an cn w H hV ia ib ic hi
  by_cases g7 : op = 7; · subst g7; exact wcell1_7 p V L size out r n aL cL ar cr an cn w H hV ia ib ic hi
  by_cases g8 : op = 8; · subst g8; exact wcell1_8 p V L size out r n aL cL ar cr an cn w H hV ia ib ic hi
  by_cases g9 : op = 9; · subst g9; exact wcell1_9 p V L size out r n aL cL ar cr an cn w H hV ia ib ic hi
  by_cases g10 : op = 10; · subst g10; exact wcell1_10 p V L size out r n aL cL ar cr an cn w H hV ia ib ic hi
  by_cases g11 : op = 11; · subst g11; exact wcell1_11 p V L size out r n aL cL ar cr an cn w H hV ia ib ic hi
  by_cases g12 : op = 12; · subst g12; exact wcell1_12 p V L size out r n aL cL ar cr an cn w H hV ia ib ic hi
  by_cases g13 : op = 13; · subst g13; exact wcell1_13 p V L size out r n aL cL ar cr an cn w H hV ia ib ic hi
  exact wcell1_x p V L size out r n aL cL ar cr an cn w H hV ia ib ic hi op ⟨g0, g1, g2, g3, g4, g5, g6, g7, g9, g10, g11, g12, g13⟩
theorem wcell2_any (p V : Nat) (L : List InsZ) (size out : Int) (r n : List Int) (aL : Option Addr) (cL : Nat) (ar : Option Addr) (cr : Nat) (an : Option Addr) (cn : Nat) (w : World) (H : VF p L size out r n) (hV : WW p V L size out r n aL cL ar cr an cn w) (op ia ib ic : Int) (hi : I64 ia ∧ I64 ib ∧ I64 ic) :
    Calls Tryd.prog 45 #[.pointer (some ⟨V, 0, none⟩), .agg #[.int .i64 op, .int .i64 ia, .int .i64 ib, .int .i64 ic], .int .i64 2] w fun e w' => e = .returned (.int .i64 (tvC p r 2 ⟨op, ia, ib, ic⟩)) ∧ Below w.heap.size w w' := by
  by_cases g0 : op = 0; · subst g0; exact wcell2_0 p V L size out r n aL cL ar cr an cn w H hV ia ib ic hi
  by_cases g1 : op = 1; · subst g1; exact wcell2_1 p V L size out r n aL cL ar cr an cn w H hV ia ib ic hi
  by_cases g2 : op = 2; · subst g2; exact wcell2_2 p V L size out r n aL cL ar cr an cn w H hV ia ib ic hi
  by_cases g3 : op = 3; · subst g3; exact wcell2_3 p V L size out r n aL cL ar cr an cn w H hV ia ib ic hi
  by_cases g4 : op = 4; · subst g4; exact wcell2_4 p V L size out r n aL cL ar cr an cn w H hV ia ib ic hi
  by_cases g5 : op = 5; · subst g5; exact wcell2_5 p V L size out r n aL cL ar cr an cn w H hV ia ib ic hi
  by_cases g6 : op = 6; · subst g6; exact wcell2_6 p V L size out r n aL cL ar cr an cn w H hV ia ib ic hi
  by_cases g7 : op = 7; · subst g7; exact wcell2_7 p V L size out r n aL cL ar cr an cn w H hV ia ib ic hi
  by_cases g8 : op = 8; · subst g8; exact wcell2_8 p V L size out r n aL cL ar cr an cn w H hV ia ib ic hi
  by_cases g9 : op = 9; · subst g9; exact wcell2_9 p V L size out r n aL cL ar cr an cn w H hV ia ib ic hi
  by_cases g10 : op = 10; · subst g10; exact wcell2_10 p V L size out r n aL cL ar cr an cn w H hV ia ib ic hi
  by_cases g11 : op = 11; · subst g11; exact wcell2_11 p V L size out r n aL cL ar cr an cn w H hV ia ib ic hi
  by_cases g12 : op = 12; · subst g12; exact wcell2_12 p V L size out r n aL cL ar cr an cn w H hV ia ib ic hi
  by_cases g13 : op = 13; · subst g13; exact wcell2_13 p V L size out r n aL cL ar cr an cn w H hV ia ib ic hi
  exact wcell2_x p V L size out r n aL cL ar cr an cn w H hV ia ib ic hi op ⟨g0, g1, g2, g3, g4, g5, g6, g7, g9, g10, g11, g12, g13⟩
theorem wdoes_any (p V : Nat) (L : List InsZ) (size out : Int) (r n : List Int) (aL : Option Addr) (cL : Nat) (ar : Option Addr) (cr : Nat) (an : Option Addr) (cn : Nat) (w : World) (H : VF p L size out r n) (hV : WW p V L size out r n aL cL ar cr an cn w) (op ia ib ic : Int) (hi : I64 ia ∧ I64 ib ∧ I64 ic) :
    Calls Tryd.prog 46 #[.pointer (some ⟨V, 0, none⟩), .agg #[.int .i64 op, .int .i64 ia, .int .i64 ib, .int .i64 ic]] w fun e w' => e = .returned (.int .i64 (tvW p r ⟨op, ia, ib, ic⟩)) ∧ Below w.heap.size w w' := by
  by_cases g0 : op = 0; · subst g0; exact wdoes_0 p V L size out r n aL cL ar cr an cn w H hV ia ib ic hi
  by_cases g1 : op = 1; · subst g1; exact wdoes_1 p V L size out r n aL cL ar cr an cn w H hV ia ib ic hi
  by_cases g2 : op = 2; · subst g2; exact wdoes_2 p V L size out r n aL cL ar cr an cn w H hV ia ib ic hi
  by_cases g3 : op = 3; · subst g3; exact wdoes_3 p V L size out r n aL cL ar cr an cn w H hV ia ib ic hi
  by_cases g4 : op = 4; · subst g4; exact wdoes_4 p V L size out r n aL cL ar cr an cn w H hV ia ib ic hi
  by_cases g5 : op = 5; · subst g5; exact wdoes_5 p V L size out r n aL cL ar cr an cn w H hV ia ib ic hi
  by_cases g6 : op = 6; · subst g6; exact wdoes_6 p V L size out r n aL cL ar cr an cn w H hV ia ib ic hi
  by_cases g7 : op = 7; · subst g7; exact wdoes_7 p V L size out r n aL cL ar cr an cn w H hV ia ib ic hi
  by_cases g8 : op = 8; · subst g8; exact wdoes_8 p V L size out r n aL cL ar cr an cn w H hV ia ib ic hi
  by_cases g9 : op = 9; · subst g9; exact wdoes_9 p V L size out r n aL cL ar cr an cn w H hV ia ib ic hi
  by_cases g10 : op = 10; · subst g10; exact wdoes_10 p V L size out r n aL cL ar cr an cn w H hV ia ib ic hi
  by_cases g11 : op = 11; · subst g11; exact wdoes_11 p V L size out r n aL cL ar cr an cn w H hV ia ib ic hi
  by_cases g12 : op = 12; · subst g12; exact wdoes_12 p V L size out r n aL cL ar cr an cn w H hV ia ib ic hi
  by_cases g13 : op = 13; · subst g13; exact wdoes_13 p V L size out r n aL cL ar cr an cn w H hV ia ib ic hi
  exact wdoes_x p V L size out r n aL cL ar cr an cn w H hV ia ib ic hi op ⟨g0, g1, g2, g3, g4, g5, g6, g7, g8, g9, g10, g11, g12, g13⟩
theorem wreg0_any (p V : Nat) (L : List InsZ) (size out : Int) (r n : List Int) (aL : Option Addr) (cL : Nat) (ar : Option Addr) (cr : Nat) (an : Option Addr) (cn : Nat) (w : World) (H : VF p L size out r n) (hV : WW p V L size out r n aL cL ar cr an cn w) (op ia ib ic : Int) (hi : I64 ia ∧ I64 ib ∧ I64 ic) :
    Calls Tryd.prog 49 #[.pointer (some ⟨V, 0, none⟩), .agg #[.int .i64 op, .int .i64 ia, .int .i64 ib, .int .i64 ic], .int .i64 0] w fun e w' => e = .returned (.int .i64 (tvF p r ⟨op, ia, ib, ic⟩)) ∧ Below w.heap.size w w' := by
  by_cases g10 : op = 10; · subst g10; exact wreg0_10 p V L size out r n aL cL ar cr an cn w H hV ia ib ic hi
  by_cases g11 : op = 11; · subst g11; exact wreg0_11 p V L size out r n aL cL ar cr an cn w H hV ia ib ic hi
  exact wreg0_x p V L size out r n aL cL ar cr an cn w H hV ia ib ic hi op ⟨g10, g11⟩
theorem wreg1_any (p V : Nat) (L : List InsZ) (size out : Int) (r n : List Int) (aL : Option Addr) (cL : Nat) (ar : Option Addr) (cr : Nat) (an : Option Addr) (cn : Nat) (w : World) (H : VF p L size out r n) (hV : WW p V L size out r n aL cL ar cr an cn w) (op ia ib ic : Int) (hi : I64 ia ∧ I64 ib ∧ I64 ic) :
    Calls Tryd.prog 49 #[.pointer (some ⟨V, 0, none⟩), .agg #[.int .i64 op, .int .i64 ia, .int .i64 ib, .int .i64 ic], .int .i64 1] w fun e w' => e = .returned (.int .i64 (tvA p r ⟨op, ia, ib, ic⟩)) ∧ Below w.heap.size w w' := by
  by_cases g10 : op = 10; · subst g10; exact wreg1_10 p V L size out r n aL cL ar cr an cn w H hV ia ib ic hi
  by_cases g11 : op = 11; · subst g11; exact wreg1_11 p V L size out r n aL cL ar cr an cn w H hV ia ib ic hi
  exact wreg1_x p V L size out r n aL cL ar cr an cn w H hV ia ib ic hi op ⟨g10, g11⟩
theorem wreg2_any (p V : Nat) (L : List InsZ) (size out : Int) (r n : List Int) (aL : Option Addr) (cL : Nat) (ar : Option Addr) (cr : Nat) (an : Option Addr) (cn : Nat) (w : World) (H : VF p L size out r n) (hV : WW p V L size out r n aL cL ar cr an cn w) (op ia ib ic : Int) (hi : I64 ia ∧ I64 ib ∧ I64 ic) :
    Calls Tryd.prog 49 #[.pointer (some ⟨V, 0, none⟩), .agg #[.int .i64 op, .int .i64 ia, .int .i64 ib, .int .i64 ic], .int .i64 2] w fun e w' => e = .returned (.int .i64 (tvR r ⟨op, ia, ib, ic⟩)) ∧ Below w.heap.size w w' := by
  by_cases g10 : op = 10; · subst g10; exact wreg2_10 p V L size out r n aL cL ar cr an cn w H hV ia ib ic hi
  by_cases g11 : op = 11; · subst g11; exact wreg2_11 p V L size out r n aL cL ar cr an cn w H hV ia ib ic hi
  exact wreg2_x p V L size out r n aL cL ar cr an cn w H hV ia ib ic hi op ⟨g10, g11⟩
theorem walso_any (p V : Nat) (L : List InsZ) (size out : Int) (r n : List Int) (aL : Option Addr) (cL : Nat) (ar : Option Addr) (cr : Nat) (an : Option Addr) (cn : Nat) (w : World) (H : VF p L size out r n) (hV : WW p V L size out r n aL cL ar cr an cn w) (k : Nat) (hk : k < L.length) :
    Calls Tryd.prog 47 #[.pointer (some ⟨V, 0, none⟩), .int .i64 (k : Int)] w fun e w' => e = .returned (.int .i64 (tvM p r k (insat L k))) ∧ Below w.heap.size w w' := by
  obtain ⟨op, ia, ib, ic, ho⟩ : ∃ op ia ib ic, insat L k = ⟨op, ia, ib, ic⟩ := ⟨_, _, _, _, rfl⟩
  rw [ho]
  by_cases g4 : op = 4; · subst g4; exact walso_4 p V L size out r n aL cL ar cr an cn w H hV k ia ib ic hk ho
  by_cases g6 : op = 6; · subst g6; exact walso_6 p V L size out r n aL cL ar cr an cn w H hV k ia ib ic hk ho
  by_cases g10 : op = 10; · subst g10; exact walso_10 p V L size out r n aL cL ar cr an cn w H hV k ia ib ic hk ho
  exact walso_x p V L size out r n aL cL ar cr an cn w H hV op k ia ib ic hk ho ⟨g4, g6, g10⟩
theorem wnext_any (p V : Nat) (L : List InsZ) (size out : Int) (r n : List Int) (aL : Option Addr) (cL : Nat) (ar : Option Addr) (cr : Nat) (an : Option Addr) (cn : Nat) (w : World) (H : VF p L size out r n) (hV : WW p V L size out r n aL cL ar cr an cn w) (k : Nat) (hk : k < L.length) :
    Calls Tryd.prog 48 #[.pointer (some ⟨V, 0, none⟩), .int .i64 (k : Int)] w fun e w' => e = .returned (.int .i64 (tvN p r k (insat L k))) ∧ Below w.heap.size w w' := by
  obtain ⟨op, ia, ib, ic, ho⟩ : ∃ op ia ib ic, insat L k = ⟨op, ia, ib, ic⟩ := ⟨_, _, _, _, rfl⟩
  rw [ho]
  by_cases g0 : op = 0; · subst g0; exact wnext_0 p V L size out r n aL cL ar cr an cn w H hV k ia ib ic hk ho
  by_cases g8 : op = 8; · subst g8; exact wnext_8 p V L size out r n aL cL ar cr an cn w H hV k ia ib ic hk ho
  by_cases g9 : op = 9; · subst g9; exact wnext_9 p V L size out r n aL cL ar cr an cn w H hV k ia ib ic hk ho
  by_cases g10 : op = 10; · subst g10; exact wnext_10 p V L size out r n aL cL ar cr an cn w H hV k ia ib ic hk ho
  by_cases g11 : op = 11; · subst g11; exact wnext_11 p V L size out r n aL cL ar cr an cn w H hV k ia ib ic hk ho
  exact wnext_x p V L size out r n aL cL ar cr an cn w H hV op k ia ib ic hk ho ⟨g0, g8, g9, g10, g11⟩
set_option maxRecDepth 100000 in
set_option maxHeartbeats 2000000 in
theorem wof_0 (p V : Nat) (L : List InsZ) (size out : Int) (r n : List Int) (aL : Option Addr) (cL : Nat) (ar : Option Addr) (cr : Nat) (an : Option Addr) (cn : Nat) (w : World) (H : VF p L size out r n) (hV : WW p V L size out r n aL cL ar cr an cn w) (k : Nat) (hk : k < L.length) :
    Calls Tryd.prog 35 #[.pointer (some ⟨V, 0, none⟩), .int .i64 0, .int .i64 (k : Int)] w fun e w' => e = .returned (.int .i64 (tvC p r 0 (insat L k))) ∧ Below w.heap.size w w' := by
  have hbb := H.hI k hk
  obtain ⟨W0, hW0⟩ : ∃ W0, W0 = w.alloc (.cells #[.int .i64 (insat L k).op, .int .i64 (insat L k).a, .int .i64 (insat L k).b, .int .i64 (insat L k).c] 83) := ⟨_, rfl⟩
  have hb0 : Below w.heap.size w W0 := by rw [hW0]; exact (Below.refl _ _).alloc (Nat.le_refl _) _
  obtain ⟨d0, d1, d2, d3, d4, d5⟩ := hV.cells
  obtain ⟨gi, oi, hgi, hgl, j0, j1, j2, j3⟩ := hV.ins.row k hk
  subst hgi
  have lk : (k : Int) < (L.length : Int) := by omega
  have hV0 := hV.below hb0
  have HB0 := hid hb0
  have HC := hid (wcell0_any p V L size out r n (some ⟨gi, oi, none⟩) cL ar cr an cn W0 H hV0 (insat L k).op _ _ _ ⟨hbb.2.1, hbb.2.2.1, hbb.2.2.2⟩)
  generalize tvC p r 0 (insat L k) = t at *
  generalize (insat L k).op = op at *
  generalize (insat L k).a = ia at *
  generalize (insat L k).b = ib at *
  generalize (insat L k).c = ic at *
  generalize L.length = nL at *
  clear H hV hV0 hb0 hbb
  go_enter Tryd.func35, Tryd.ntmps35
  go_wp2_with fail
  rw [← hW0]
  clear hW0
  refine HC.out.mono ?_
  rintro e w1 ⟨rfl, hb1⟩
  have HB1 := hid (HB0.out.trans (hb1.mono HB0.out.size))
  clear hb1 HC
  go_wp2_with fail
  go_ret
  exact ⟨rfl, HB1.out⟩

set_option maxRecDepth 100000 in
set_option maxHeartbeats 2000000 in
theorem wof_1 (p V : Nat) (L : List InsZ) (size out : Int) (r n : List Int) (aL : Option Addr) (cL : Nat) (ar : Option Addr) (cr : Nat) (an : Option Addr) (cn : Nat) (w : World) (H : VF p L size out r n) (hV : WW p V L size out r n aL cL ar cr an cn w) (k : Nat) (hk : k < L.length) :
    Calls Tryd.prog 35 #[.pointer (some ⟨V, 0, none⟩), .int .i64 1, .int .i64 (k : Int)] w fun e w' => e = .returned (.int .i64 (tvC p r 1 (insat L k))) ∧ Below w.heap.size w w' := by
  have hbb := H.hI k hk
  obtain ⟨W0, hW0⟩ : ∃ W0, W0 = w.alloc (.cells #[.int .i64 (insat L k).op, .int .i64 (insat L k).a, .int .i64 (insat L k).b, .int .i64 (insat L k).c] 83) := ⟨_, rfl⟩
  have hb0 : Below w.heap.size w W0 := by rw [hW0]; exact (Below.refl _ _).alloc (Nat.le_refl _) _
  obtain ⟨d0, d1, d2, d3, d4, d5⟩ := hV.cells
  obtain ⟨gi, oi, hgi, hgl, j0, j1, j2, j3⟩ := hV.ins.row k hk
  subst hgi
  have lk : (k : Int) < (L.length : Int) := by omega
  have hV0 := hV.below hb0
  have HB0 := hid hb0
  have HC := hid (wcell1_any p V L size out r n (some ⟨gi, oi, none⟩) cL ar cr an cn W0 H hV0 (insat L k).op _ _ _ ⟨hbb.2.1, hbb.2.2.1, hbb.2.2.2⟩)
  generalize tvC p r 1 (insat L k) = t at *
  generalize (insat L k).op = op at *
  generalize (insat L k).a = ia at *
  generalize (insat L k).b = ib at *
  generalize (insat L k).c = ic at *
  generalize L.length = nL at *
  clear H hV hV0 hb0 hbb
  go_enter Tryd.func35, Tryd.ntmps35
  go_wp2_with fail
  rw [← hW0]
  clear hW0
  refine HC.out.mono ?_
  rintro e w1 ⟨rfl, hb1⟩
  have HB1 := hid (HB0.out.trans (hb1.mono HB0.out.size))
  clear hb1 HC
  go_wp2_with fail
  go_ret
  exact ⟨rfl, HB1.out⟩

set_option maxRecDepth 100000 in
set_option maxHeartbeats 2000000 in
theorem wof_2 (p V : Nat) (L : List InsZ) (size out : Int) (r n : List Int) (aL : Option Addr) (cL : Nat) (ar : Option Addr) (cr : Nat) (an : Option Addr) (cn : Nat) (w : World) (H : VF p L size out r n) (hV : WW p V L size out r n aL cL ar cr an cn w) (k : Nat) (hk : k < L.length) :
    Calls Tryd.prog 35 #[.pointer (some ⟨V, 0, none⟩), .int .i64 2, .int .i64 (k : Int)] w fun e w' => e = .returned (.int .i64 (tvC p r 2 (insat L k))) ∧ Below w.heap.size w w' := by
  have hbb := H.hI k hk
  obtain ⟨W0, hW0⟩ : ∃ W0, W0 = w.alloc (.cells #[.int .i64 (insat L k).op, .int .i64 (insat L k).a, .int .i64 (insat L k).b, .int .i64 (insat L k).c] 83) := ⟨_, rfl⟩
  have hb0 : Below w.heap.size w W0 := by rw [hW0]; exact (Below.refl _ _).alloc (Nat.le_refl _) _
  obtain ⟨d0, d1, d2, d3, d4, d5⟩ := hV.cells
  obtain ⟨gi, oi, hgi, hgl, j0, j1, j2, j3⟩ := hV.ins.row k hk
  subst hgi
  have lk : (k : Int) < (L.length : Int) := by omega
  have hV0 := hV.below hb0
  have HB0 := hid hb0
  have HC := hid (wcell2_any p V L size out r n (some ⟨gi, oi, none⟩) cL ar cr an cn W0 H hV0 (insat L k).op _ _ _ ⟨hbb.2.1, hbb.2.2.1, hbb.2.2.2⟩)
  generalize tvC p r 2 (insat L k) = t at *
  generalize (insat L k).op = op at *
  generalize (insat L k).a = ia at *
  generalize (insat L k).b = ib at *
  generalize (insat L k).c = ic at *
  generalize L.length = nL at *
  clear H hV hV0 hb0 hbb
  go_enter Tryd.func35, Tryd.ntmps35
  go_wp2_with fail
  rw [← hW0]
  clear hW0
  refine HC.out.mono ?_
  rintro e w1 ⟨rfl, hb1⟩
  have HB1 := hid (HB0.out.trans (hb1.mono HB0.out.size))
  clear hb1 HC
  go_wp2_with fail
  go_ret
  exact ⟨rfl, HB1.out⟩

set_option maxRecDepth 100000 in
set_option maxHeartbeats 2000000 in
theorem wof_3 (p V : Nat) (L : List InsZ) (size out : Int) (r n : List Int) (aL : Option Addr) (cL : Nat) (ar : Option Addr) (cr : Nat) (an : Option Addr) (cn : Nat) (w : World) (H : VF p L size out r n) (hV : WW p V L size out r n aL cL ar cr an cn w) (k : Nat) (hk : k < L.length) :
    Calls Tryd.prog 35 #[.pointer (some ⟨V, 0, none⟩), .int .i64 3, .int .i64 (k : Int)] w fun e w' => e = .returned (.int .i64 (tvW p r (insat L k))) ∧ Below w.heap.size w w' := by
  have hbb := H.hI k hk
  obtain ⟨W0, hW0⟩ : ∃ W0, W0 = w.alloc (.cells #[.int .i64 (insat L k).op, .int .i64 (insat L k).a, .int .i64 (insat L k).b, .int .i64 (insat L k).c] 83) := ⟨_, rfl⟩
  have hb0 : Below w.heap.size w W0 := by rw [hW0]; exact (Below.refl _ _).alloc (Nat.le_refl _) _
  obtain ⟨d0, d1, d2, d3, d4, d5⟩ := hV.cells
  obtain ⟨gi, oi, hgi, hgl, j0, j1, j2, j3⟩ := hV.ins.row k hk
  subst hgi
  have lk : (k : Int) < (L.length : Int) := by omega
  have hV0 := hV.below hb0
  have HB0 := hid hb0
  have HC := hid (wdoes_any p V L size out r n (some ⟨gi, oi, none⟩) cL ar cr an cn W0 H hV0 (insat L k).op _ _ _ ⟨hbb.2.1, hbb.2.2.1, hbb.2.2.2⟩)
  generalize tvW p r (insat L k) = t at *
  generalize (insat L k).op = op at *
  generalize (insat L k).a = ia at *
  generalize (insat L k).b = ib at *
  generalize (insat L k).c = ic at *
  generalize L.length = nL at *
  clear H hV hV0 hb0 hbb
  go_enter Tryd.func35, Tryd.ntmps35
  go_wp2_with fail
  rw [← hW0]
  clear hW0
  refine HC.out.mono ?_
  rintro e w1 ⟨rfl, hb1⟩
  have HB1 := hid (HB0.out.trans (hb1.mono HB0.out.size))
  clear hb1 HC
  go_wp2_with fail
  go_ret
  exact ⟨rfl, HB1.out⟩

set_option maxRecDepth 100000 in
set_option maxHeartbeats 2000000 in
theorem wof_4 (p V : Nat) (L : List InsZ) (size out : Int) (r n : List Int) (aL : Option Addr) (cL : Nat) (ar : Option Addr) (cr : Nat) (an : Option Addr) (cn : Nat) (w : World) (H : VF p L size out r n) (hV : WW p V L size out r n aL cL ar cr an cn w) (k : Nat) (hk : k < L.length) :
    Calls Tryd.prog 35 #[.pointer (some ⟨V, 0, none⟩), .int .i64 4, .int .i64 (k : Int)] w fun e w' => e = .returned (.int .i64 (tvM p r k (insat L k))) ∧ Below w.heap.size w w' := by
  have hbb := H.hI k hk
  obtain ⟨W0, hW0⟩ : ∃ W0, W0 = w.alloc (.cells #[.int .i64 (insat L k).op, .int .i64 (insat L k).a, .int .i64 (insat L k).b, .int .i64 (insat L k).c] 83) := ⟨_, rfl⟩
  have hb0 : Below w.heap.size w W0 := by rw [hW0]; exact (Below.refl _ _).alloc (Nat.le_refl _) _
  obtain ⟨d0, d1, d2, d3, d4, d5⟩ := hV.cells
  obtain ⟨gi, oi, hgi, hgl, j0, j1, j2, j3⟩ := hV.ins.row k hk
  subst hgi
  have lk : (k : Int) < (L.length : Int) := by omega
  have hV0 := hV.below hb0
  have HB0 := hid hb0
  have HC := hid (walso_any p V L size out r n (some ⟨gi, oi, none⟩) cL ar cr an cn W0 H hV0 k hk)
  generalize tvM p r k (insat L k) = t at *
  generalize (insat L k).op = op at *
  generalize (insat L k).a = ia at *
  generalize (insat L k).b = ib at *
  generalize (insat L k).c = ic at *
  generalize L.length = nL at *
  clear H hV hV0 hb0 hbb
  go_enter Tryd.func35, Tryd.ntmps35
  go_wp2_with fail
  rw [← hW0]
  clear hW0
  refine HC.out.mono ?_
  rintro e w1 ⟨rfl, hb1⟩
  have HB1 := hid (HB0.out.trans (hb1.mono HB0.out.size))
  clear hb1 HC
  go_wp2_with fail
  go_ret
  exact ⟨rfl, HB1.out⟩

set_option maxRecDepth 100000 in
set_option maxHeartbeats 2000000 in
theorem wof_5 (p V : Nat) (L : List InsZ) (size out : Int) (r n : List Int) (aL : Option Addr) (cL : Nat) (ar : Option Addr) (cr : Nat) (an : Option Addr) (cn : Nat) (w : World) (H : VF p L size out r n) (hV : WW p V L size out r n aL cL ar cr an cn w) (k : Nat) (hk : k < L.length) :
    Calls Tryd.prog 35 #[.pointer (some ⟨V, 0, none⟩), .int .i64 5, .int .i64 (k : Int)] w fun e w' => e = .returned (.int .i64 (tvN p r k (insat L k))) ∧ Below w.heap.size w w' := by
  have hbb := H.hI k hk
  obtain ⟨W0, hW0⟩ : ∃ W0, W0 = w.alloc (.cells #[.int .i64 (insat L k).op, .int .i64 (insat L k).a, .int .i64 (insat L k).b, .int .i64 (insat L k).c] 83) := ⟨_, rfl⟩
  have hb0 : Below w.heap.size w W0 := by rw [hW0]; exact (Below.refl _ _).alloc (Nat.le_refl _) _
  obtain ⟨d0, d1, d2, d3, d4, d5⟩ := hV.cells
  obtain ⟨gi, oi, hgi, hgl, j0, j1, j2, j3⟩ := hV.ins.row k hk
  subst hgi
  have lk : (k : Int) < (L.length : Int) := by omega
  have hV0 := hV.below hb0
  have HB0 := hid hb0
  have HC := hid (wnext_any p V L size out r n (some ⟨gi, oi, none⟩) cL ar cr an cn W0 H hV0 k hk)
  generalize tvN p r k (insat L k) = t at *
  generalize (insat L k).op = op at *
  generalize (insat L k).a = ia at *
  generalize (insat L k).b = ib at *
  generalize (insat L k).c = ic at *
  generalize L.length = nL at *
  clear H hV hV0 hb0 hbb
  go_enter Tryd.func35, Tryd.ntmps35
  go_wp2_with fail
  rw [← hW0]
  clear hW0
  refine HC.out.mono ?_
  rintro e w1 ⟨rfl, hb1⟩
  have HB1 := hid (HB0.out.trans (hb1.mono HB0.out.size))
  clear hb1 HC
  go_wp2_with fail
  go_ret
  exact ⟨rfl, HB1.out⟩

set_option maxRecDepth 100000 in
set_option maxHeartbeats 2000000 in
theorem wof_6 (p V : Nat) (L : List InsZ) (size out : Int) (r n : List Int) (aL : Option Addr) (cL : Nat) (ar : Option Addr) (cr : Nat) (an : Option Addr) (cn : Nat) (w : World) (H : VF p L size out r n) (hV : WW p V L size out r n aL cL ar cr an cn w) (k : Nat) (hk : k < L.length) :
    Calls Tryd.prog 35 #[.pointer (some ⟨V, 0, none⟩), .int .i64 6, .int .i64 (k : Int)] w fun e w' => e = .returned (.int .i64 (tvF p r (insat L k))) ∧ Below w.heap.size w w' := by
  have hbb := H.hI k hk
  obtain ⟨W0, hW0⟩ : ∃ W0, W0 = w.alloc (.cells #[.int .i64 (insat L k).op, .int .i64 (insat L k).a, .int .i64 (insat L k).b, .int .i64 (insat L k).c] 83) := ⟨_, rfl⟩
  have hb0 : Below w.heap.size w W0 := by rw [hW0]; exact (Below.refl _ _).alloc (Nat.le_refl _) _
  obtain ⟨d0, d1, d2, d3, d4, d5⟩ := hV.cells
  obtain ⟨gi, oi, hgi, hgl, j0, j1, j2, j3⟩ := hV.ins.row k hk
  subst hgi
  have lk : (k : Int) < (L.length : Int) := by omega
  have hV0 := hV.below hb0
  have HB0 := hid hb0
  have HC := hid (wreg0_any p V L size out r n (some ⟨gi, oi, none⟩) cL ar cr an cn W0 H hV0 (insat L k).op _ _ _ ⟨hbb.2.1, hbb.2.2.1, hbb.2.2.2⟩)
  generalize tvF p r (insat L k) = t at *
  generalize (insat L k).op = op at *
  generalize (insat L k).a = ia at *
  generalize (insat L k).b = ib at *
  generalize (insat L k).c = ic at *
  generalize L.length = nL at *
  clear H hV hV0 hb0 hbb
  go_enter Tryd.func35, Tryd.ntmps35
  go_wp2_with fail
  rw [← hW0]
  clear hW0
  refine HC.out.mono ?_
  rintro e w1 ⟨rfl, hb1⟩
  have HB1 := hid (HB0.out.trans (hb1.mono HB0.out.size))
  clear hb1 HC
  go_wp2_with fail
  go_ret
  exact ⟨rfl, HB1.out⟩

set_option maxRecDepth 100000 in
set_option maxHeartbeats 2000000 in
theorem wof_7 (p V : Nat) (L : List InsZ) (size out : Int) (r n : List Int) (aL : Option Addr) (cL : Nat) (ar : Option Addr) (cr : Nat) (an : Option Addr) (cn : Nat) (w : World) (H : VF p L size out r n) (hV : WW p V L size out r n aL cL ar cr an cn w) (k : Nat) (hk : k < L.length) :
    Calls Tryd.prog 35 #[.pointer (some ⟨V, 0, none⟩), .int .i64 7, .int .i64 (k : Int)] w fun e w' => e = .returned (.int .i64 (tvA p r (insat L k))) ∧ Below w.heap.size w w' := by
  have hbb := H.hI k hk
  obtain ⟨W0, hW0⟩ : ∃ W0, W0 = w.alloc (.cells #[.int .i64 (insat L k).op, .int .i64 (insat L k).a, .int .i64 (insat L k).b, .int .i64 (insat L k).c] 83) := ⟨_, rfl⟩
  have hb0 : Below w.heap.size w W0 := by rw [hW0]; exact (Below.refl _ _).alloc (Nat.le_refl _) _
  obtain ⟨d0, d1, d2, d3, d4, d5⟩ := hV.cells
  obtain ⟨gi, oi, hgi, hgl, j0, j1, j2, j3⟩ := hV.ins.row k hk
  subst hgi
  have lk : (k : Int) < (L.length : Int) := by omega
  have hV0 := hV.below hb0
  have HB0 := hid hb0
  have HC := hid (wreg1_any p V L size out r n (some ⟨gi, oi, none⟩) cL ar cr an cn W0 H hV0 (insat L k).op _ _ _ ⟨hbb.2.1, hbb.2.2.1, hbb.2.2.2⟩)
  generalize tvA p r (insat L k) = t at *
  generalize (insat L k).op = op at *
  generalize (insat L k).a = ia at *
  generalize (insat L k).b = ib at *
  generalize (insat L k).c = ic at *
  generalize L.length = nL at *
  clear H hV hV0 hb0 hbb
  go_enter Tryd.func35, Tryd.ntmps35
  go_wp2_with fail
  rw [← hW0]
  clear hW0
  refine HC.out.mono ?_
  rintro e w1 ⟨rfl, hb1⟩
  have HB1 := hid (HB0.out.trans (hb1.mono HB0.out.size))
  clear hb1 HC
  go_wp2_with fail
  go_ret
  exact ⟨rfl, HB1.out⟩

set_option maxRecDepth 100000 in
set_option maxHeartbeats 2000000 in
theorem wof_8 (p V : Nat) (L : List InsZ) (size out : Int) (r n : List Int) (aL : Option Addr) (cL : Nat) (ar : Option Addr) (cr : Nat) (an : Option Addr) (cn : Nat) (w : World) (H : VF p L size out r n) (hV : WW p V L size out r n aL cL ar cr an cn w) (k : Nat) (hk : k < L.length) :
    Calls Tryd.prog 35 #[.pointer (some ⟨V, 0, none⟩), .int .i64 8, .int .i64 (k : Int)] w fun e w' => e = .returned (.int .i64 (tvR r (insat L k))) ∧ Below w.heap.size w w' := by
  have hbb := H.hI k hk
  obtain ⟨W0, hW0⟩ : ∃ W0, W0 = w.alloc (.cells #[.int .i64 (insat L k).op, .int .i64 (insat L k).a, .int .i64 (insat L k).b, .int .i64 (insat L k).c] 83) := ⟨_, rfl⟩
  have hb0 : Below w.heap.size w W0 := by rw [hW0]; exact (Below.refl _ _).alloc (Nat.le_refl _) _
  obtain ⟨d0, d1, d2, d3, d4, d5⟩ := hV.cells
  obtain ⟨gi, oi, hgi, hgl, j0, j1, j2, j3⟩ := hV.ins.row k hk
  subst hgi
  have lk : (k : Int) < (L.length : Int) := by omega
  have hV0 := hV.below hb0
  have HB0 := hid hb0
  have HC := hid (wreg2_any p V L size out r n (some ⟨gi, oi, none⟩) cL ar cr an cn W0 H hV0 (insat L k).op _ _ _ ⟨hbb.2.1, hbb.2.2.1, hbb.2.2.2⟩)
  generalize tvR r (insat L k) = t at *
  generalize (insat L k).op = op at *
  generalize (insat L k).a = ia at *
  generalize (insat L k).b = ib at *
  generalize (insat L k).c = ic at *
  generalize L.length = nL at *
  clear H hV hV0 hb0 hbb
  go_enter Tryd.func35, Tryd.ntmps35
  go_wp2_with fail
  rw [← hW0]
  clear hW0
  refine HC.out.mono ?_
  rintro e w1 ⟨rfl, hb1⟩
  have HB1 := hid (HB0.out.trans (hb1.mono HB0.out.size))
  clear hb1 HC
  go_wp2_with fail
  go_ret
  exact ⟨rfl, HB1.out⟩

set_option maxRecDepth 100000 in
set_option maxHeartbeats 2000000 in
theorem wof9_0 (p V : Nat) (L : List InsZ) (size out : Int) (r n : List Int) (aL : Option Addr) (cL : Nat) (ar : Option Addr) (cr : Nat) (an : Option Addr) (cn : Nat) (w : World) (H : VF p L size out r n) (hV : WW p V L size out r n aL cL ar cr an cn w) (k : Nat) (ia ib ic : Int) (hk : k < L.length) (ho : insat L k = ⟨0, ia, ib, ic⟩) :
    Calls Tryd.prog 35 #[.pointer (some ⟨V, 0, none⟩), .int .i64 9, .int .i64 (k : Int)] w fun e w' => e = .returned (.int .i64 (tvH ⟨0, ia, ib, ic⟩)) ∧ Below w.heap.size w w' := by
  have h3 := H.h3
  have h4 := H.h4
  have HEM : Hid (∀ a : Int, I64 (a % (p : Int))) := fun a => by have := emod_bounds a p H.h3; have := H.h4; unfold I64; omega
  have hbb := H.hI k hk
  rw [ho] at hbb
  obtain ⟨_, hia, hib, hic⟩ := hbb
  obtain ⟨W0, hW0⟩ : ∃ W0, W0 = w.alloc (.cells #[.int .i64 0, .int .i64 ia, .int .i64 ib, .int .i64 ic] 83) := ⟨_, rfl⟩
  have hb0 : Below w.heap.size w W0 := by rw [hW0]; exact (Below.refl _ _).alloc (Nat.le_refl _) _
  obtain ⟨d0, d1, d2, d3, d4, d5⟩ := hV.cells
  obtain ⟨gi, oi, hgi, hgl, j0, j1, j2, j3⟩ := hV.ins.row k hk
  subst hgi
  rw [ho] at j0 j1 j2 j3
  have lk : (k : Int) < (L.length : Int) := by omega
  have hk1 : I64 ((k : Int) + 1) := by have := H.hl; unfold I64; omega
  have hw : IntKind.i64.wrap ((k : Int) + 1) = (k : Int) + 1 := by rw [IntKind.wrap_i64]; have := H.hl; omega
  replace hV := hV.below hb0
  have HB0 := hid hb0
  clear hb0
  obtain ⟨c0, c1, c2, c3, c4, c5⟩ := hV.cells
  have QP : Hid (∀ nn, (W0.drewN nn).cell? ⟨V, 0, none⟩ = some (.int .i64 p)) := fun nn => c0
  have HE : Hid (tvH ⟨0, ia, ib, ic⟩ = 1) := rfl
  obtain ⟨R, hR⟩ : ∃ R, R = tvH ⟨0, ia, ib, ic⟩ := ⟨_, rfl⟩
  rw [← hR] at HE ⊢
  clear hR
  clear HEM H hV
  generalize L.length = nL at *
  subst hW0
  go_enter Tryd.func35, Tryd.ntmps35
  go_wp2_with fail
  go_ret
  exact ⟨by have h := HE.out; subst h; rfl, HB0.out⟩

set_option maxRecDepth 100000 in
set_option maxHeartbeats 2000000 in
theorem wof9_x (p V : Nat) (L : List InsZ) (size out : Int) (r n : List Int) (aL : Option Addr) (cL : Nat) (ar : Option Addr) (cr : Nat) (an : Option Addr) (cn : Nat) (w : World) (H : VF p L size out r n) (hV : WW p V L size out r n aL cL ar cr an cn w) (op : Int) (k : Nat) (ia ib ic : Int) (hk : k < L.length) (ho : insat L k = ⟨op, ia, ib, ic⟩) (hno : op ≠ 0) :
    Calls Tryd.prog 35 #[.pointer (some ⟨V, 0, none⟩), .int .i64 9, .int .i64 (k : Int)] w fun e w' => e = .returned (.int .i64 (tvH ⟨op, ia, ib, ic⟩)) ∧ Below w.heap.size w w' := by
  have h3 := H.h3
  have h4 := H.h4
  have HEM : Hid (∀ a : Int, I64 (a % (p : Int))) := fun a => by have := emod_bounds a p H.h3; have := H.h4; unfold I64; omega
  have hbb := H.hI k hk
  rw [ho] at hbb
  obtain ⟨_, hia, hib, hic⟩ := hbb
  obtain ⟨W0, hW0⟩ : ∃ W0, W0 = w.alloc (.cells #[.int .i64 op, .int .i64 ia, .int .i64 ib, .int .i64 ic] 83) := ⟨_, rfl⟩
  have hb0 : Below w.heap.size w W0 := by rw [hW0]; exact (Below.refl _ _).alloc (Nat.le_refl _) _
  obtain ⟨d0, d1, d2, d3, d4, d5⟩ := hV.cells
  obtain ⟨gi, oi, hgi, hgl, j0, j1, j2, j3⟩ := hV.ins.row k hk
  subst hgi
  rw [ho] at j0 j1 j2 j3
  have lk : (k : Int) < (L.length : Int) := by omega
  have hk1 : I64 ((k : Int) + 1) := by have := H.hl; unfold I64; omega
  have hw : IntKind.i64.wrap ((k : Int) + 1) = (k : Int) + 1 := by rw [IntKind.wrap_i64]; have := H.hl; omega
  replace hV := hV.below hb0
  have HB0 := hid hb0
  clear hb0
  obtain ⟨c0, c1, c2, c3, c4, c5⟩ := hV.cells
  have QP : Hid (∀ nn, (W0.drewN nn).cell? ⟨V, 0, none⟩ = some (.int .i64 p)) := fun nn => c0
  have q0 : (op == 0) = false := by rw [beq_eq_false_iff_ne]; omega
  have HE : Hid (tvH ⟨op, ia, ib, ic⟩ = 0) := by unfold Hid; simp [tvH, hno]
  obtain ⟨R, hR⟩ : ∃ R, R = tvH ⟨op, ia, ib, ic⟩ := ⟨_, rfl⟩
  rw [← hR] at HE ⊢
  clear hR
  clear HEM H hV
  generalize L.length = nL at *
  subst hW0
  go_enter Tryd.func35, Tryd.ntmps35
  go_wp2_with fail
  go_ret
  exact ⟨by have h := HE.out; subst h; rfl, HB0.out⟩

theorem wof_9 (p V : Nat) (L : List InsZ) (size out : Int) (r n : List Int) (aL : Option Addr) (cL : Nat) (ar : Option Addr) (cr : Nat) (an : Option Addr) (cn : Nat) (w : World) (H : VF p L size out r n) (hV : WW p V L size out r n aL cL ar cr an cn w) (k : Nat) (hk : k < L.length) :
    Calls Tryd.prog 35 #[.pointer (some ⟨V, 0, none⟩), .int .i64 9, .int .i64 (k : Int)] w fun e w' => e = .returned (.int .i64 (tvH (insat L k))) ∧ Below w.heap.size w w' := by
  obtain ⟨op, ia, ib, ic, ho⟩ : ∃ op ia ib ic, insat L k = ⟨op, ia, ib, ic⟩ := ⟨_, _, _, _, rfl⟩
  rw [ho]
  by_cases g0 : op = 0
  · subst g0; exact wof9_0 p V L size out r n aL cL ar cr an cn w H hV k ia ib ic hk ho
  · exact wof9_x p V L size out r n aL cL ar cr an cn w H hV op k ia ib ic hk ho g0

end Go.Proofs.YtaibngnabhmabajDoor

namespace Go.Proofs.YtaibngnabhmabajDoor
open Go.RowKit Go.Maps

theorem mcells_all (p b : Nat) (op ia ib ic fp ap : Int) (w : World) (h3 : 3 ≤ p) (h4 : p ≤ 2147483647) (hp : w.cell? ⟨b, 0, none⟩ = some (.int .i64 p)) (hb : I64 ia ∧ I64 ib ∧ I64 ic ∧ I64 fp ∧ I64 ap) :
    Calls Tryd.prog 73 #[.pointer (some ⟨b, 0, none⟩), .agg #[.int .i64 op, .int .i64 ia, .int .i64 ib, .int .i64 ic], .int .i64 fp, .int .i64 ap] w (CeR p op ia ib ic fp ap w) := by
  by_cases g0 : op = 0; · subst g0; exact pcells_0 p b ia ib ic fp ap w h3 h4 hp hb
  by_cases g1 : op = 1; · subst g1; exact pcells_1 p b ia ib ic fp ap w h3 h4 hp hb
  by_cases g2 : op = 2; · subst g2; exact pcells_2 p b ia ib ic fp ap w h3 h4 hp hb
  by_cases g3 : op = 3; · subst g3; exact pcells_3 p b ia ib ic fp ap w h3 h4 hp hb
  by_cases g4 : op = 4; · subst g4; exact pcells_4 p b ia ib ic fp ap w h3 h4 hp hb
  by_cases g5 : op = 5; · subst g5; exact pcells_5 p b ia ib ic fp ap w h3 h4 hp hb
  by_cases g6 : op = 6; · subst g6; exact pcells_6 p b ia ib ic fp ap w h3 h4 hp hb
  by_cases g7 : op = 7; · subst g7; exact pcells_7 p b ia ib ic fp ap w h3 h4 hp hb
  by_cases g8 : op = 8; · subst g8; exact pcells_8 p b ia ib ic fp ap w hp
  by_cases g9 : op = 9; · subst g9; exact pcells_9 p b ia ib ic fp ap w h3 h4 hp hb
  by_cases g10 : op = 10; · subst g10; exact pcells_10 p b ia ib ic fp ap w h3 h4 hp hb
  by_cases g11 : op = 11; · subst g11; exact pcells_11 p b ia ib ic fp ap w h3 h4 hp hb
  by_cases g12 : op = 12; · subst g12; exact pcells_12 p b ia ib ic fp ap w h3 h4 hp hb
  by_cases g13 : op = 13; · subst g13; exact pcells_13 p b ia ib ic fp ap w h3 h4 hp hb
  exact pcells_x p b op ia ib ic fp ap w hp ⟨g0, g1, g2, g3, g4, g5, g6, g7, g9, g10, g11, g12, g13⟩

theorem iy3_0 (x y z : Int) (w : World) : (Instr.index 102 (.agg #[.int .i64 x, .int .i64 y, .int .i64 z]) (.int .i64 0)).run Tryd.prog w = .ok (.int .i64 x) w := by kernel_rfl
theorem iy3_1 (x y z : Int) (w : World) : (Instr.index 102 (.agg #[.int .i64 x, .int .i64 y, .int .i64 z]) (.int .i64 1)).run Tryd.prog w = .ok (.int .i64 y) w := by kernel_rfl
theorem iy3_2 (x y z : Int) (w : World) : (Instr.index 102 (.agg #[.int .i64 x, .int .i64 y, .int .i64 z]) (.int .i64 2)).run Tryd.prog w = .ok (.int .i64 z) w := by kernel_rfl
theorem put3_cell {W : World} {G : Nat} {a b c : Value} {p : Addr} (h : p.block ≠ G) : (((W.setCell ⟨G, 0, none⟩ a).setCell ⟨G, 1, none⟩ b).setCell ⟨G, 2, none⟩ c).cell? p = W.cell? p :=
  World.cell?_of_block (by rw [Below.heap_setCell _ _ _ _ h, Below.heap_setCell _ _ _ _ h, Below.heap_setCell _ _ _ _ h])
theorem hrw0 {p b V : Nat} {L : List InsZ} {size out : Int} {r n : List Int} {aL : Option Addr} {cL g o : Nat} {cr : Nat} {an : Option Addr} {cn : Nat} {w : World} (h : VW p b V L size out r n aL cL (some ⟨g, o, none⟩) cr an cn w) (hl : r.length = 20 + L.length) : w.cell? ⟨g, o, none⟩ = some (.int .i64 (zat r 0)) := by
  obtain ⟨g', o', h1, h2⟩ := h.rowAt hl
  injection h1 with h1
  injection h1 with h1 h3
  subst h1 h3
  exact h2 0 (by omega)
set_option maxRecDepth 100000 in
set_option maxHeartbeats 2000000 in
theorem vcells_any (p b V : Nat) (L : List InsZ) (size out : Int) (r n : List Int) (aL : Option Addr) (cL : Nat) (ar : Option Addr) (cr : Nat) (an : Option Addr) (cn : Nat) (w : World) (H : VF p L size out r n) (hV : VW p b V L size out r n aL cL ar cr an cn w) (op ia ib ic : Int) (hi : I64 ia ∧ I64 ib ∧ I64 ic) :
    Calls Tryd.prog 70 #[.pointer (some ⟨V, 0, none⟩), .agg #[.int .i64 op, .int .i64 ia, .int .i64 ib, .int .i64 ic]] w fun e w' => e = .returned (.agg #[.int .i64 (tvC p r 0 ⟨op, ia, ib, ic⟩), .int .i64 (tvC p r 1 ⟨op, ia, ib, ic⟩), .int .i64 (tvC p r 2 ⟨op, ia, ib, ic⟩)]) ∧ Below w.heap.size w w' := by
  have h3 := H.h3
  have h4 := H.h4
  obtain ⟨V1, hV1⟩ : ∃ V1, V1 = w.alloc (.cells #[.int .i64 op, .int .i64 ia, .int .i64 ib, .int .i64 ic] 83) := ⟨_, rfl⟩
  obtain ⟨W0, hW0⟩ : ∃ W0, W0 = V1.alloc (.cells #[.int .i64 0, .int .i64 0, .int .i64 0] 102) := ⟨_, rfl⟩
  have b1 : Below w.heap.size w V1 := by rw [hV1]; exact (Below.refl _ _).alloc (Nat.le_refl _) _
  have hz1 : V1.heap.size = w.heap.size + 1 := by rw [hV1]; simp
  have b2 : Below V1.heap.size V1 W0 := by rw [hW0]; exact (Below.refl _ _).alloc (Nat.le_refl _) _
  have hb0 := b1.trans (b2.mono b1.size)
  have hs0 : W0.heap[w.heap.size]? = some (.cells #[.int .i64 op, .int .i64 ia, .int .i64 ib, .int .i64 ic] 83 (0, 0)) := (b2.block _ (by omega)).trans (by rw [hV1]; exact heap_alloc_new w _)
  have hr0 : W0.heap[w.heap.size + 1]? = some (.cells #[.int .i64 0, .int .i64 0, .int .i64 0] 102 (0, 0)) := by rw [hW0, ← hz1]; exact heap_alloc_new V1 _
  obtain ⟨I, hI⟩ : ∃ I, I = w.heap.size := ⟨_, rfl⟩
  obtain ⟨G, hG⟩ : ∃ G, G = w.heap.size + 1 := ⟨_, rfl⟩
  rw [← hI] at hs0
  rw [← hG] at hr0
  have HV0 := hid (hV.below hb0)
  have HB0 := hid hb0
  have HGW : Hid (w.heap.size ≤ G) := by unfold Hid; omega
  obtain ⟨br, orr, har, hrw⟩ := HV0.out.rowAt H.hr
  subst har
  have HK : Hid (∀ W, Below W0.heap.size W0 W → (W.cell? ⟨V, 0, none⟩ = some (.pointer (some ⟨b, 0, none⟩)) ∧ W.cell? ⟨V, 4, none⟩ = some (.slice (some ⟨br, orr, none⟩) r.length cr) ∧ W.cell? ⟨br, orr, none⟩ = some (.int .i64 (zat r 0)) ∧ W.cell? ⟨br, orr + 1, none⟩ = some (.int .i64 (zat r 1)) ∧ W.cell? ⟨I, 0, none⟩ = some (.int .i64 op) ∧ W.cell? ⟨I, 1, none⟩ = some (.int .i64 ia) ∧ W.cell? ⟨I, 2, none⟩ = some (.int .i64 ib) ∧ W.cell? ⟨I, 3, none⟩ = some (.int .i64 ic))) := fun W h => by
    obtain ⟨c0, _, _, _, c4, _⟩ := (HV0.out.below h).cells
    have hi2 := (h.block I (Array.getElem?_eq_some_iff.1 hs0).1).trans hs0
    have q0 := hrw 0 (by omega)
    have q1 := hrw 1 (by omega)
    exact ⟨c0, c4, (h.cell (p := ⟨br, orr, none⟩) (World.block_lt_of_cell? _ _ q0)).trans q0, (h.cell (p := ⟨br, orr + 1, none⟩) (World.block_lt_of_cell? _ _ q1)).trans q1, by simp [World.cell?, hi2], by simp [World.cell?, hi2], by simp [World.cell?, hi2], by simp [World.cell?, hi2]⟩
  have HK2 : Hid (∀ (W : World) (a b' c' : Value), Below W0.heap.size W0 W → ((((W.setCell ⟨G, 0, none⟩ a).setCell ⟨G, 1, none⟩ b').setCell ⟨G, 2, none⟩ c').cell? ⟨V, 0, none⟩ = some (.pointer (some ⟨b, 0, none⟩)) ∧ (((W.setCell ⟨G, 0, none⟩ a).setCell ⟨G, 1, none⟩ b').setCell ⟨G, 2, none⟩ c').cell? ⟨V, 4, none⟩ = some (.slice (some ⟨br, orr, none⟩) r.length cr) ∧ (((W.setCell ⟨G, 0, none⟩ a).setCell ⟨G, 1, none⟩ b').setCell ⟨G, 2, none⟩ c').cell? ⟨br, orr, none⟩ = some (.int .i64 (zat r 0)) ∧ (((W.setCell ⟨G, 0, none⟩ a).setCell ⟨G, 1, none⟩ b').setCell ⟨G, 2, none⟩ c').cell? ⟨br, orr + 1, none⟩ = some (.int .i64 (zat r 1)) ∧ (((W.setCell ⟨G, 0, none⟩ a).setCell ⟨G, 1, none⟩ b').setCell ⟨G, 2, none⟩ c').cell? ⟨I, 0, none⟩ = some (.int .i64 op) ∧ (((W.setCell ⟨G, 0, none⟩ a).setCell ⟨G, 1, none⟩ b').setCell ⟨G, 2, none⟩ c').cell? ⟨I, 1, none⟩ = some (.int .i64 ia) ∧ (((W.setCell ⟨G, 0, none⟩ a).setCell ⟨G, 1, none⟩ b').setCell ⟨G, 2, none⟩ c').cell? ⟨I, 2, none⟩ = some (.int .i64 ib) ∧ (((W.setCell ⟨G, 0, none⟩ a).setCell ⟨G, 1, none⟩ b').setCell ⟨G, 2, none⟩ c').cell? ⟨I, 3, none⟩ = some (.int .i64 ic))) := fun W a b' c' h => by
    have hvl : V ≠ G := by have := (Array.getElem?_eq_some_iff.1 hV.blk).1; omega
    have hrl : br ≠ G := by
      have h9 : br < w.heap.size := World.block_lt_of_cell? _ _ (hrw0 hV H.hr)
      omega
    have hil : I ≠ G := by omega
    simp only [put3_cell (p := ⟨V, 0, none⟩) hvl, put3_cell (p := ⟨V, 4, none⟩) hvl, put3_cell (p := ⟨br, orr, none⟩) hrl, put3_cell (p := ⟨br, orr + 1, none⟩) hrl, put3_cell (p := ⟨I, 0, none⟩) hil, put3_cell (p := ⟨I, 1, none⟩) hil, put3_cell (p := ⟨I, 2, none⟩) hil, put3_cell (p := ⟨I, 3, none⟩) hil]
    exact HK.out W h
  have HCL : Hid (∀ W, Below W0.heap.size W0 W → Calls Tryd.prog 73 #[.pointer (some ⟨b, 0, none⟩), .agg #[.int .i64 op, .int .i64 ia, .int .i64 ib, .int .i64 ic], .int .i64 (zat r 0), .int .i64 (zat r 1)] W fun e w' => e = .returned (.agg #[.int .i64 (tvC p r 0 ⟨op, ia, ib, ic⟩), .int .i64 (tvC p r 1 ⟨op, ia, ib, ic⟩), .int .i64 (tvC p r 2 ⟨op, ia, ib, ic⟩)]) ∧ Below W0.heap.size W0 w') := fun W h => by
    refine (mcells_all p b op ia ib ic (zat r 0) (zat r 1) W h3 h4 (HV0.out.below h).fld ⟨hi.1, hi.2.1, hi.2.2, H.fr 0, H.fr 1⟩).mono ?_
    rintro e w' ⟨rfl, hb⟩
    exact ⟨rfl, h.trans (hb.mono h.size)⟩
  have HR3 : Hid (∀ W, Below W0.heap.size W0 W → W.heap[G]? = some (.cells #[.int .i64 0, .int .i64 0, .int .i64 0] 102 (0, 0))) := fun W h => (h.block G (Array.getElem?_eq_some_iff.1 hr0).1).trans hr0
  have l0 : (0 : Int) < (r.length : Int) := by have := H.hr; omega
  have l1 : (1 : Int) < (r.length : Int) := by have := H.hr; omega
  have l0' : 0 < r.length := by have := H.hr; omega
  have l1' : 1 < r.length := by have := H.hr; omega
  have hdd : Below W0.heap.size W0 W0.drew := (Below.refl _ _).drew
  have hd0 : Below W0.heap.size W0 W0 := Below.refl _ _
  generalize tvC p r 0 ⟨op, ia, ib, ic⟩ = y0 at *
  generalize tvC p r 1 ⟨op, ia, ib, ic⟩ = y1 at *
  generalize tvC p r 2 ⟨op, ia, ib, ic⟩ = y2 at *
  generalize zat r 0 = x0 at *
  generalize zat r 1 = x1 at *
  generalize r.length = lr at *
  clear H hV b1 b2 hb0 hs0 hr0 hrw hi HV0
  go_enter Tryd.func70, Tryd.ntmps70
  go_wp2_with fail
  rw [← hV1, ← hW0]
  rw [← hG, ← hI]
  clear hV1 hW0 hz1 hG hI
  go_region_held3 (fun W => W.cell? ⟨V, 0, none⟩ = some (.pointer (some ⟨b, 0, none⟩)) ∧ W.cell? ⟨V, 4, none⟩ = some (.slice (some ⟨br, orr, none⟩) lr cr) ∧ W.cell? ⟨br, orr, none⟩ = some (.int .i64 x0) ∧ W.cell? ⟨br, orr + 1, none⟩ = some (.int .i64 x1) ∧ W.cell? ⟨I, 0, none⟩ = some (.int .i64 op) ∧ W.cell? ⟨I, 1, none⟩ = some (.int .i64 ia) ∧ W.cell? ⟨I, 2, none⟩ = some (.int .i64 ib) ∧ W.cell? ⟨I, 3, none⟩ = some (.int .i64 ic)) (first | exact HK.out _ (by assumption) | exact HK2.out _ _ _ _ (by assumption))
    (first | (go_at_call 73; refine (HCL.out _ (by assumption)).mono ?_; rintro e w' ⟨rfl, hb'⟩; have hg := HR3.out _ hb'; have z0 : w'.cell? ⟨G, 0, none⟩ = some (.int .i64 0) := (by simp [World.cell?, hg]); have z1 : w'.cell? ⟨G, 1, none⟩ = some (.int .i64 0) := (by simp [World.cell?, hg]); have z2 : w'.cell? ⟨G, 2, none⟩ = some (.int .i64 0) := (by simp [World.cell?, hg]); have y' : ∀ i, w'.frozen? ⟨G, i, none⟩ = false := (row3_of hg).frozen))
  have HBX := hid (HB0.out.trans (hb'.mono HB0.out.size))
  go_wp2_with fail
  (try simp only [Exit.inBlock, Exit.then])
  refine bodyPost_ret (results_cell_row rfl _ _ G 102 #[.int .i64 y0, .int .i64 y1, .int .i64 y2] (0, 0) _ rfl (put3_heap hg (.int .i64 y0) (.int .i64 y1) (.int .i64 y2)) Tryd.underlying102 rfl (by kernel_rfl)) rfl ?_
  first
    | exact ⟨rfl, put3_below HBX.out HGW.out _ _ _⟩
    | exact ⟨rfl, (put3_below HBX.out HGW.out _ _ _).drew⟩

set_option maxRecDepth 100000 in
set_option maxHeartbeats 2000000 in
theorem vfirstCell_any (p b V : Nat) (L : List InsZ) (size out : Int) (r n : List Int) (aL : Option Addr) (cL : Nat) (ar : Option Addr) (cr : Nat) (an : Option Addr) (cn : Nat) (w : World) (H : VF p L size out r n) (hV : VW p b V L size out r n aL cL ar cr an cn w) (k : Nat) (op ia ib ic : Int) (hi : I64 ia ∧ I64 ib ∧ I64 ic) :
    Calls Tryd.prog 57 #[.pointer (some ⟨V, 0, none⟩), .int .i64 (k : Int), .agg #[.int .i64 op, .int .i64 ia, .int .i64 ib, .int .i64 ic]] w fun e w' => e = .returned (.int .i64 (tvC p r 0 ⟨op, ia, ib, ic⟩)) ∧ Below w.heap.size w w' := by
  obtain ⟨W0, hW0⟩ : ∃ W0, W0 = w.alloc (.cells #[.int .i64 op, .int .i64 ia, .int .i64 ib, .int .i64 ic] 83) := ⟨_, rfl⟩
  have hb0 : Below w.heap.size w W0 := by rw [hW0]; exact (Below.refl _ _).alloc (Nat.le_refl _) _
  have HC := hid (vcells_any p b V L size out r n aL cL ar cr an cn W0 H (hV.below hb0) op ia ib ic hi)
  have HB0 := hid hb0
  generalize tvC p r 0 ⟨op, ia, ib, ic⟩ = y0 at *
  generalize tvC p r 1 ⟨op, ia, ib, ic⟩ = y1 at *
  generalize tvC p r 2 ⟨op, ia, ib, ic⟩ = y2 at *
  have hx0 := iy3_0 y0 y1 y2
  have hx1 := iy3_1 y0 y1 y2
  have hx2 := iy3_2 y0 y1 y2
  clear H hV hb0 hi
  go_enter Tryd.func57, Tryd.ntmps57
  go_wp2_with fail
  rw [← hW0]
  clear hW0
  refine HC.out.mono ?_
  rintro e w1 ⟨rfl, hb1⟩
  have HB1 := hid (HB0.out.trans (hb1.mono HB0.out.size))
  clear hb1 HC
  go_wp2_with fail
  go_ret
  exact ⟨rfl, HB1.out⟩

set_option maxRecDepth 100000 in
set_option maxHeartbeats 2000000 in
theorem vsecondCell_any (p b V : Nat) (L : List InsZ) (size out : Int) (r n : List Int) (aL : Option Addr) (cL : Nat) (ar : Option Addr) (cr : Nat) (an : Option Addr) (cn : Nat) (w : World) (H : VF p L size out r n) (hV : VW p b V L size out r n aL cL ar cr an cn w) (k : Nat) (op ia ib ic : Int) (hi : I64 ia ∧ I64 ib ∧ I64 ic) :
    Calls Tryd.prog 58 #[.pointer (some ⟨V, 0, none⟩), .int .i64 (k : Int), .agg #[.int .i64 op, .int .i64 ia, .int .i64 ib, .int .i64 ic]] w fun e w' => e = .returned (.int .i64 (tvC p r 1 ⟨op, ia, ib, ic⟩)) ∧ Below w.heap.size w w' := by
  obtain ⟨W0, hW0⟩ : ∃ W0, W0 = w.alloc (.cells #[.int .i64 op, .int .i64 ia, .int .i64 ib, .int .i64 ic] 83) := ⟨_, rfl⟩
  have hb0 : Below w.heap.size w W0 := by rw [hW0]; exact (Below.refl _ _).alloc (Nat.le_refl _) _
  have HC := hid (vcells_any p b V L size out r n aL cL ar cr an cn W0 H (hV.below hb0) op ia ib ic hi)
  have HB0 := hid hb0
  generalize tvC p r 0 ⟨op, ia, ib, ic⟩ = y0 at *
  generalize tvC p r 1 ⟨op, ia, ib, ic⟩ = y1 at *
  generalize tvC p r 2 ⟨op, ia, ib, ic⟩ = y2 at *
  have hx0 := iy3_0 y0 y1 y2
  have hx1 := iy3_1 y0 y1 y2
  have hx2 := iy3_2 y0 y1 y2
  clear H hV hb0 hi
  go_enter Tryd.func58, Tryd.ntmps58
  go_wp2_with fail
  rw [← hW0]
  clear hW0
  refine HC.out.mono ?_
  rintro e w1 ⟨rfl, hb1⟩
  have HB1 := hid (HB0.out.trans (hb1.mono HB0.out.size))
  clear hb1 HC
  go_wp2_with fail
  go_ret
  exact ⟨rfl, HB1.out⟩

set_option maxRecDepth 100000 in
set_option maxHeartbeats 2000000 in
theorem vthirdCell_any (p b V : Nat) (L : List InsZ) (size out : Int) (r n : List Int) (aL : Option Addr) (cL : Nat) (ar : Option Addr) (cr : Nat) (an : Option Addr) (cn : Nat) (w : World) (H : VF p L size out r n) (hV : VW p b V L size out r n aL cL ar cr an cn w) (k : Nat) (op ia ib ic : Int) (hi : I64 ia ∧ I64 ib ∧ I64 ic) :
    Calls Tryd.prog 59 #[.pointer (some ⟨V, 0, none⟩), .int .i64 (k : Int), .agg #[.int .i64 op, .int .i64 ia, .int .i64 ib, .int .i64 ic]] w fun e w' => e = .returned (.int .i64 (tvC p r 2 ⟨op, ia, ib, ic⟩)) ∧ Below w.heap.size w w' := by
  obtain ⟨W0, hW0⟩ : ∃ W0, W0 = w.alloc (.cells #[.int .i64 op, .int .i64 ia, .int .i64 ib, .int .i64 ic] 83) := ⟨_, rfl⟩
  have hb0 : Below w.heap.size w W0 := by rw [hW0]; exact (Below.refl _ _).alloc (Nat.le_refl _) _
  have HC := hid (vcells_any p b V L size out r n aL cL ar cr an cn W0 H (hV.below hb0) op ia ib ic hi)
  have HB0 := hid hb0
  generalize tvC p r 0 ⟨op, ia, ib, ic⟩ = y0 at *
  generalize tvC p r 1 ⟨op, ia, ib, ic⟩ = y1 at *
  generalize tvC p r 2 ⟨op, ia, ib, ic⟩ = y2 at *
  have hx0 := iy3_0 y0 y1 y2
  have hx1 := iy3_1 y0 y1 y2
  have hx2 := iy3_2 y0 y1 y2
  clear H hV hb0 hi
  go_enter Tryd.func59, Tryd.ntmps59
  go_wp2_with fail
  rw [← hW0]
  clear hW0
  refine HC.out.mono ?_
  rintro e w1 ⟨rfl, hb1⟩
  have HB1 := hid (HB0.out.trans (hb1.mono HB0.out.size))
  clear hb1 HC
  go_wp2_with fail
  go_ret
  exact ⟨rfl, HB1.out⟩

end Go.Proofs.YtaibngnabhmabajDoor
