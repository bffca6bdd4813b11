/- Package rules: the terms of any instruction. The reference: sums of terms; what two pairs behind one another say. The reference: the rules of the first and the last row. -/
import Derived.Test.YtaibngnabhmabajDoorBbAM
import Derived.Test.YtaibngnabhmabajDoorBbAK
namespace Go.Proofs.YtaibngnabhmabajDoor
open Go.RowKit Go.Maps

theorem vwork_any (p b V : Nat) (L : List InsZ) (size out : Int) (r n : List Int) (aL : Option Addr) (cL : Nat) (ar : Option Addr) (cr : Nat) (an : Option Addr) (cn : Nat) (w : World) (H : VF p L size out r n) (hV : VW p b V L size out r n aL cL ar cr an cn w) (k : Nat) (op ia ib ic : Int) (hi : k < 281474976710656 ∧ I64 ia ∧ I64 ib ∧ I64 ic) :
    Calls Tryd.prog 60 #[.pointer (some ⟨V, 0, none⟩), .int .i64 (k : Int), .agg #[.int .i64 op, .int .i64 ia, .int .i64 ib, .int .i64 ic]] w fun e w' => e = .returned (.int .i64 (tvW p r ⟨op, ia, ib, ic⟩)) ∧ Below w.heap.size w w' := by
  by_cases g0 : op = 0; · subst g0; exact vwork_0 p b V L size out r n aL cL ar cr an cn w H hV k ia ib ic hi
  by_cases g1 : op = 1; · subst g1; exact vwork_1 p b V L size out r n aL cL ar cr an cn w H hV k ia ib ic hi
  by_cases g2 : op = 2; · subst g2; exact vwork_2 p b V L size out r n aL cL ar cr an cn w H hV k ia ib ic hi
  by_cases g3 : op = 3; · subst g3; exact vwork_3 p b V L size out r n aL cL ar cr an cn w H hV k ia ib ic hi
  by_cases g4 : op = 4; · subst g4; exact vwork_4 p b V L size out r n aL cL ar cr an cn w H hV k ia ib ic hi
  by_cases g5 : op = 5; · subst g5; exact vwork_5 p b V L size out r n aL cL ar cr an cn w H hV k ia ib ic hi
  by_cases g6 : op = 6; · subst g6; exact vwork_6 p b V L size out r n aL cL ar cr an cn w H hV k ia ib ic hi
  by_cases g7 : op = 7; · subst g7; exact vwork_7 p b V L size out r n aL cL ar cr an cn w H hV k ia ib ic hi
  by_cases g8 : op = 8; · subst g8; exact vwork_8 p b V L size out r n aL cL ar cr an cn w H hV k ia ib ic hi
  by_cases g9 : op = 9; · subst g9; exact vwork_9 p b V L size out r n aL cL ar cr an cn w H hV k ia ib ic hi
  by_cases g10 : op = 10; · subst g10; exact vwork_10 p b V L size out r n aL cL ar cr an cn w H hV k ia ib ic hi
  by_cases g11 : op = 11; · subst g11; exact vwork_11 p b V L size out r n aL cL ar cr an cn w H hV k ia ib ic hi
  by_cases g12 : op = 12; · subst g12; exact vwork_12 p b V L size out r n aL cL ar cr an cn w H hV k ia ib ic hi
  by_cases g13 : op = 13; · subst g13; exact vwork_13 p b V L size out r n aL cL ar cr an cn w H hV k ia ib ic hi
  exact vwork_x p b V L size out r n aL cL ar cr an cn w H hV k ia ib ic hi op ⟨g0, g1, g2, g3, g4, g5, g6, g7, g8, g9, g10, g11, g12, g13⟩
theorem vmore_any (p b V : Nat) (L : List InsZ) (size out : Int) (r n : List Int) (aL : Option Addr) (cL : Nat) (ar : Option Addr) (cr : Nat) (an : Option Addr) (cn : Nat) (w : World) (H : VF p L size out r n) (hV : VW p b V L size out r n aL cL ar cr an cn w) (k : Nat) (op ia ib ic : Int) (hi : k < 281474976710656 ∧ I64 ia ∧ I64 ib ∧ I64 ic) :
    Calls Tryd.prog 61 #[.pointer (some ⟨V, 0, none⟩), .int .i64 (k : Int), .agg #[.int .i64 op, .int .i64 ia, .int .i64 ib, .int .i64 ic]] w fun e w' => e = .returned (.int .i64 (tvM p r k ⟨op, ia, ib, ic⟩)) ∧ Below w.heap.size w w' := by
  by_cases g4 : op = 4; · subst g4; exact vmore_4 p b V L size out r n aL cL ar cr an cn w H hV k ia ib ic hi
  by_cases g6 : op = 6; · subst g6; exact vmore_6 p b V L size out r n aL cL ar cr an cn w H hV k ia ib ic hi
  by_cases g10 : op = 10; · subst g10; exact vmore_10 p b V L size out r n aL cL ar cr an cn w H hV k ia ib ic hi
  exact vmore_x p b V L size out r n aL cL ar cr an cn w H hV k ia ib ic hi op ⟨g4, g6, g10⟩
theorem vpc_any (p b V : Nat) (L : List InsZ) (size out : Int) (r n : List Int) (aL : Option Addr) (cL : Nat) (ar : Option Addr) (cr : Nat) (an : Option Addr) (cn : Nat) (w : World) (H : VF p L size out r n) (hV : VW p b V L size out r n aL cL ar cr an cn w) (k : Nat) (op ia ib ic : Int) (hi : k < 281474976710656 ∧ I64 ia ∧ I64 ib ∧ I64 ic) :
    Calls Tryd.prog 63 #[.pointer (some ⟨V, 0, none⟩), .int .i64 (k : Int), .agg #[.int .i64 op, .int .i64 ia, .int .i64 ib, .int .i64 ic]] w fun e w' => e = .returned (.int .i64 (tvN p r k ⟨op, ia, ib, ic⟩)) ∧ Below w.heap.size w w' := by
  by_cases g0 : op = 0; · subst g0; exact vpc_0 p b V L size out r n aL cL ar cr an cn w H hV k ia ib ic hi
  by_cases g8 : op = 8; · subst g8; exact vpc_8 p b V L size out r n aL cL ar cr an cn w H hV k ia ib ic hi
  by_cases g9 : op = 9; · subst g9; exact vpc_9 p b V L size out r n aL cL ar cr an cn w H hV k ia ib ic hi
  by_cases g10 : op = 10; · subst g10; exact vpc_10 p b V L size out r n aL cL ar cr an cn w H hV k ia ib ic hi
  by_cases g11 : op = 11; · subst g11; exact vpc_11 p b V L size out r n aL cL ar cr an cn w H hV k ia ib ic hi
  exact vpc_x p b V L size out r n aL cL ar cr an cn w H hV k ia ib ic hi op ⟨g0, g8, g9, g10, g11⟩
theorem vfp_any (p b V : Nat) (L : List InsZ) (size out : Int) (r n : List Int) (aL : Option Addr) (cL : Nat) (ar : Option Addr) (cr : Nat) (an : Option Addr) (cn : Nat) (w : World) (H : VF p L size out r n) (hV : VW p b V L size out r n aL cL ar cr an cn w) (k : Nat) (op ia ib ic : Int) (hi : k < 281474976710656 ∧ I64 ia ∧ I64 ib ∧ I64 ic) :
    Calls Tryd.prog 64 #[.pointer (some ⟨V, 0, none⟩), .int .i64 (k : Int), .agg #[.int .i64 op, .int .i64 ia, .int .i64 ib, .int .i64 ic]] w fun e w' => e = .returned (.int .i64 (tvF p r ⟨op, ia, ib, ic⟩)) ∧ Below w.heap.size w w' := by
  by_cases g10 : op = 10; · subst g10; exact vfp_10 p b V L size out r n aL cL ar cr an cn w H hV k ia ib ic hi
  by_cases g11 : op = 11; · subst g11; exact vfp_11 p b V L size out r n aL cL ar cr an cn w H hV k ia ib ic hi
  exact vfp_x p b V L size out r n aL cL ar cr an cn w H hV k ia ib ic hi op ⟨g10, g11⟩
theorem vap_any (p b V : Nat) (L : List InsZ) (size out : Int) (r n : List Int) (aL : Option Addr) (cL : Nat) (ar : Option Addr) (cr : Nat) (an : Option Addr) (cn : Nat) (w : World) (H : VF p L size out r n) (hV : VW p b V L size out r n aL cL ar cr an cn w) (k : Nat) (op ia ib ic : Int) (hi : k < 281474976710656 ∧ I64 ia ∧ I64 ib ∧ I64 ic) :
    Calls Tryd.prog 65 #[.pointer (some ⟨V, 0, none⟩), .int .i64 (k : Int), .agg #[.int .i64 op, .int .i64 ia, .int .i64 ib, .int .i64 ic]] w fun e w' => e = .returned (.int .i64 (tvA p r ⟨op, ia, ib, ic⟩)) ∧ Below w.heap.size w w' := by
  by_cases g10 : op = 10; · subst g10; exact vap_10 p b V L size out r n aL cL ar cr an cn w H hV k ia ib ic hi
  exact vap_x p b V L size out r n aL cL ar cr an cn w H hV k ia ib ic hi op g10
theorem vrv_any (p b V : Nat) (L : List InsZ) (size out : Int) (r n : List Int) (aL : Option Addr) (cL : Nat) (ar : Option Addr) (cr : Nat) (an : Option Addr) (cn : Nat) (w : World) (H : VF p L size out r n) (hV : VW p b V L size out r n aL cL ar cr an cn w) (k : Nat) (op ia ib ic : Int) (hi : k < 281474976710656 ∧ I64 ia ∧ I64 ib ∧ I64 ic) :
    Calls Tryd.prog 66 #[.pointer (some ⟨V, 0, none⟩), .int .i64 (k : Int), .agg #[.int .i64 op, .int .i64 ia, .int .i64 ib, .int .i64 ic]] w fun e w' => e = .returned (.int .i64 (tvR r ⟨op, ia, ib, ic⟩)) ∧ Below w.heap.size w w' := by
  by_cases g11 : op = 11; · subst g11; exact vrv_11 p b V L size out r n aL cL ar cr an cn w H hV k ia ib ic hi
  exact vrv_x p b V L size out r n aL cL ar cr an cn w H hV k ia ib ic hi op g11
theorem vhalts_any (p b V : Nat) (L : List InsZ) (size out : Int) (r n : List Int) (aL : Option Addr) (cL : Nat) (ar : Option Addr) (cr : Nat) (an : Option Addr) (cn : Nat) (w : World) (H : VF p L size out r n) (hV : VW p b V L size out r n aL cL ar cr an cn w) (k : Nat) (op ia ib ic : Int) (hi : k < 281474976710656 ∧ I64 ia ∧ I64 ib ∧ I64 ic) :
    Calls Tryd.prog 68 #[.pointer (some ⟨V, 0, none⟩), .int .i64 (k : Int), .agg #[.int .i64 op, .int .i64 ia, .int .i64 ib, .int .i64 ic]] w fun e w' => e = .returned (.int .i64 (tvH ⟨op, ia, ib, ic⟩)) ∧ Below w.heap.size w w' := by
  by_cases g0 : op = 0; · subst g0; exact vhalts_0 p b V L size out r n aL cL ar cr an cn w H hV k ia ib ic hi
  exact vhalts_x p b V L size out r n aL cL ar cr an cn w H hV k ia ib ic hi op g0
theorem enters_fn {P : Program} {f : FuncId} {fn : Func} (hf : P.funcs[f]? = some fn) (hb : fn.body.isNone = false) (hn : (fn.name == "runtime.NumGoroutine") = false) (args : Array Value) (w : World) : (callFunc f args).run P w = .ok (.enter f args) w := by
  simp only [callFunc, Sem.run_bind, run_program, Result.andThen_ok, hf, hn, hb]
  rfl
theorem em_I64 {p : Nat} (h3 : 3 ≤ p) (h4 : p ≤ 2147483647) (a : Int) : I64 (a % (p : Int)) := by have := emod_bounds a p h3; unfold I64; omega
theorem ite_I64 {c : Prop} [Decidable c] {a b : Int} (ha : I64 a) (hb : I64 b) : I64 (if c then a else b) := by split <;> assumption
theorem I64_small (x : Int) (h : 0 ≤ x ∧ x ≤ 281474976710656 := by omega) : I64 x := by unfold I64; omega
theorem cel3_I64 {p : Nat} (e : ∀ a : Int, I64 (a % (p : Int))) (op a b c fp ap : Int) (i : Nat) : I64 (cel3 p op a b c fp ap i) := by
  have z : I64 0 := I64_small 0
  unfold cel3
  exact ite_I64 (ite_I64 (e _) (ite_I64 (e _) (e _))) (ite_I64 (ite_I64 (e _) (ite_I64 (e _) z)) (ite_I64 (ite_I64 (e _) z) (ite_I64 (ite_I64 (e _) (ite_I64 (e _) z)) (ite_I64 (ite_I64 (e _) (ite_I64 (e _) (e _))) (ite_I64 (ite_I64 (e _) (ite_I64 (e _) z)) z)))))
theorem tm_work (p b V : Nat) (L : List InsZ) (size out : Int) (r n : List Int) (aL : Option Addr) (cL : Nat) (ar : Option Addr) (cr : Nat) (an : Option Addr) (cn : Nat) (w : World) (H : VF p L size out r n) (hV : VW p b V L size out r n aL cL ar cr an cn w) : TmF V L w 60 (fun _ => tvW p r) := by
  have e := em_I64 H.h3 H.h4
  have z : I64 0 := I64_small 0
  have u : I64 1 := I64_small 1
  refine ⟨enters_fn Tryd.func60 (by kernel_rfl) (by kernel_rfl), fun k hk => ?_, fun W k hb hk => ?_⟩
  · have hl := H.hl
    have hi := H.hI k hk
    unfold tvW; exact ite_I64 (e _) (ite_I64 (e _) (ite_I64 (e _) (ite_I64 (e _) (ite_I64 (e _) (ite_I64 (e _) (ite_I64 (e _) (ite_I64 (e _) (ite_I64 (e _) (ite_I64 (e _) (ite_I64 z u))))))))))
  · have hl := H.hl
    have hi := H.hI k hk
    exact vwork_any p b V L size out r n aL cL ar cr an cn W H (hV.below hb) k _ _ _ _ ⟨by omega, hi.2.1, hi.2.2.1, hi.2.2.2⟩
theorem tm_more (p b V : Nat) (L : List InsZ) (size out : Int) (r n : List Int) (aL : Option Addr) (cL : Nat) (ar : Option Addr) (cr : Nat) (an : Option Addr) (cn : Nat) (w : World) (H : VF p L size out r n) (hV : VW p b V L size out r n aL cL ar cr an cn w) : TmF V L w 61 (tvM p r) := by
  have e := em_I64 H.h3 H.h4
  have z : I64 0 := I64_small 0
  have u : I64 1 := I64_small 1
  refine ⟨enters_fn Tryd.func61 (by kernel_rfl) (by kernel_rfl), fun k hk => ?_, fun W k hb hk => ?_⟩
  · have hl := H.hl
    have hi := H.hI k hk
    unfold tvM; exact ite_I64 (e _) (ite_I64 (e _) (ite_I64 (e _) z))
  · have hl := H.hl
    have hi := H.hI k hk
    exact vmore_any p b V L size out r n aL cL ar cr an cn W H (hV.below hb) k _ _ _ _ ⟨by omega, hi.2.1, hi.2.2.1, hi.2.2.2⟩
theorem tm_pc (p b V : Nat) (L : List InsZ) (size out : Int) (r n : List Int) (aL : Option Addr) (cL : Nat) (ar : Option Addr) (cr : Nat) (an : Option Addr) (cn : Nat) (w : World) (H : VF p L size out r n) (hV : VW p b V L size out r n aL cL ar cr an cn w) : TmF V L w 63 (tvN p r) := by
  have e := em_I64 H.h3 H.h4
  have z : I64 0 := I64_small 0
  have u : I64 1 := I64_small 1
  refine ⟨enters_fn Tryd.func63 (by kernel_rfl) (by kernel_rfl), fun k hk => ?_, fun W k hb hk => ?_⟩
  · have hl := H.hl
    have hi := H.hI k hk
    unfold tvN; exact ite_I64 (I64_small _) (ite_I64 hi.2.1 (ite_I64 (e _) (ite_I64 (H.fr _) (I64_small _))))
  · have hl := H.hl
    have hi := H.hI k hk
    exact vpc_any p b V L size out r n aL cL ar cr an cn W H (hV.below hb) k _ _ _ _ ⟨by omega, hi.2.1, hi.2.2.1, hi.2.2.2⟩
theorem tm_fp (p b V : Nat) (L : List InsZ) (size out : Int) (r n : List Int) (aL : Option Addr) (cL : Nat) (ar : Option Addr) (cr : Nat) (an : Option Addr) (cn : Nat) (w : World) (H : VF p L size out r n) (hV : VW p b V L size out r n aL cL ar cr an cn w) : TmF V L w 64 (fun _ => tvF p r) := by
  have e := em_I64 H.h3 H.h4
  have z : I64 0 := I64_small 0
  have u : I64 1 := I64_small 1
  refine ⟨enters_fn Tryd.func64 (by kernel_rfl) (by kernel_rfl), fun k hk => ?_, fun W k hb hk => ?_⟩
  · have hl := H.hl
    have hi := H.hI k hk
    unfold tvF; exact ite_I64 (e _) (ite_I64 (H.fr _) (H.fr _))
  · have hl := H.hl
    have hi := H.hI k hk
    exact vfp_any p b V L size out r n aL cL ar cr an cn W H (hV.below hb) k _ _ _ _ ⟨by omega, hi.2.1, hi.2.2.1, hi.2.2.2⟩
theorem tm_ap (p b V : Nat) (L : List InsZ) (size out : Int) (r n : List Int) (aL : Option Addr) (cL : Nat) (ar : Option Addr) (cr : Nat) (an : Option Addr) (cn : Nat) (w : World) (H : VF p L size out r n) (hV : VW p b V L size out r n aL cL ar cr an cn w) : TmF V L w 65 (fun _ => tvA p r) := by
  have e := em_I64 H.h3 H.h4
  have z : I64 0 := I64_small 0
  have u : I64 1 := I64_small 1
  refine ⟨enters_fn Tryd.func65 (by kernel_rfl) (by kernel_rfl), fun k hk => ?_, fun W k hb hk => ?_⟩
  · have hl := H.hl
    have hi := H.hI k hk
    unfold tvA; exact ite_I64 (e _) (H.fr _)
  · have hl := H.hl
    have hi := H.hI k hk
    exact vap_any p b V L size out r n aL cL ar cr an cn W H (hV.below hb) k _ _ _ _ ⟨by omega, hi.2.1, hi.2.2.1, hi.2.2.2⟩
theorem tm_rv (p b V : Nat) (L : List InsZ) (size out : Int) (r n : List Int) (aL : Option Addr) (cL : Nat) (ar : Option Addr) (cr : Nat) (an : Option Addr) (cn : Nat) (w : World) (H : VF p L size out r n) (hV : VW p b V L size out r n aL cL ar cr an cn w) : TmF V L w 66 (fun _ => tvR r) := by
  have e := em_I64 H.h3 H.h4
  have z : I64 0 := I64_small 0
  have u : I64 1 := I64_small 1
  refine ⟨enters_fn Tryd.func66 (by kernel_rfl) (by kernel_rfl), fun k hk => ?_, fun W k hb hk => ?_⟩
  · have hl := H.hl
    have hi := H.hI k hk
    unfold tvR; exact ite_I64 (H.fr _) (H.fr _)
  · have hl := H.hl
    have hi := H.hI k hk
    exact vrv_any p b V L size out r n aL cL ar cr an cn W H (hV.below hb) k _ _ _ _ ⟨by omega, hi.2.1, hi.2.2.1, hi.2.2.2⟩
theorem tm_halts (p b V : Nat) (L : List InsZ) (size out : Int) (r n : List Int) (aL : Option Addr) (cL : Nat) (ar : Option Addr) (cr : Nat) (an : Option Addr) (cn : Nat) (w : World) (H : VF p L size out r n) (hV : VW p b V L size out r n aL cL ar cr an cn w) : TmF V L w 68 (fun _ => tvH) := by
  have e := em_I64 H.h3 H.h4
  have z : I64 0 := I64_small 0
  have u : I64 1 := I64_small 1
  refine ⟨enters_fn Tryd.func68 (by kernel_rfl) (by kernel_rfl), fun k hk => ?_, fun W k hb hk => ?_⟩
  · have hl := H.hl
    have hi := H.hI k hk
    unfold tvH; exact ite_I64 u z
  · have hl := H.hl
    have hi := H.hI k hk
    exact vhalts_any p b V L size out r n aL cL ar cr an cn W H (hV.below hb) k _ _ _ _ ⟨by omega, hi.2.1, hi.2.2.1, hi.2.2.2⟩
theorem tm_once (p b V : Nat) (L : List InsZ) (size out : Int) (r n : List Int) (aL : Option Addr) (cL : Nat) (ar : Option Addr) (cr : Nat) (an : Option Addr) (cn : Nat) (w : World) (H : VF p L size out r n) (hV : VW p b V L size out r n aL cL ar cr an cn w) : TmF V L w 56 (fun _ _ => 1) := by
  have e := em_I64 H.h3 H.h4
  have z : I64 0 := I64_small 0
  have u : I64 1 := I64_small 1
  refine ⟨enters_fn Tryd.func56 (by kernel_rfl) (by kernel_rfl), fun k hk => ?_, fun W k hb hk => ?_⟩
  · have hl := H.hl
    have hi := H.hI k hk
    exact u
  · have hl := H.hl
    have hi := H.hI k hk
    exact vonce_any p b V L size out r n aL cL ar cr an cn W H (hV.below hb) k _ _ _ ⟨by omega, hi.2.1, hi.2.2.1, hi.2.2.2⟩ _
theorem tm_number (p b V : Nat) (L : List InsZ) (size out : Int) (r n : List Int) (aL : Option Addr) (cL : Nat) (ar : Option Addr) (cr : Nat) (an : Option Addr) (cn : Nat) (w : World) (H : VF p L size out r n) (hV : VW p b V L size out r n aL cL ar cr an cn w) : TmF V L w 62 (fun k _ => (k : Int)) := by
  have e := em_I64 H.h3 H.h4
  have z : I64 0 := I64_small 0
  have u : I64 1 := I64_small 1
  refine ⟨enters_fn Tryd.func62 (by kernel_rfl) (by kernel_rfl), fun k hk => ?_, fun W k hb hk => ?_⟩
  · have hl := H.hl
    have hi := H.hI k hk
    exact I64_small (k : Int)
  · have hl := H.hl
    have hi := H.hI k hk
    exact vnumber_any p b V L size out r n aL cL ar cr an cn W H (hV.below hb) k _ _ _ ⟨by omega, hi.2.1, hi.2.2.1, hi.2.2.2⟩ _
theorem tm_firstCell (p b V : Nat) (L : List InsZ) (size out : Int) (r n : List Int) (aL : Option Addr) (cL : Nat) (ar : Option Addr) (cr : Nat) (an : Option Addr) (cn : Nat) (w : World) (H : VF p L size out r n) (hV : VW p b V L size out r n aL cL ar cr an cn w) : TmF V L w 57 (fun _ => tvC p r 0) := by
  have e := em_I64 H.h3 H.h4
  have z : I64 0 := I64_small 0
  have u : I64 1 := I64_small 1
  refine ⟨enters_fn Tryd.func57 (by kernel_rfl) (by kernel_rfl), fun k hk => ?_, fun W k hb hk => ?_⟩
  · have hl := H.hl
    have hi := H.hI k hk
    exact cel3_I64 e _ _ _ _ _ _ _
  · have hl := H.hl
    have hi := H.hI k hk
    exact vfirstCell_any p b V L size out r n aL cL ar cr an cn W H (hV.below hb) k _ _ _ _ ⟨hi.2.1, hi.2.2.1, hi.2.2.2⟩
theorem tm_secondCell (p b V : Nat) (L : List InsZ) (size out : Int) (r n : List Int) (aL : Option Addr) (cL : Nat) (ar : Option Addr) (cr : Nat) (an : Option Addr) (cn : Nat) (w : World) (H : VF p L size out r n) (hV : VW p b V L size out r n aL cL ar cr an cn w) : TmF V L w 58 (fun _ => tvC p r 1) := by
  have e := em_I64 H.h3 H.h4
  have z : I64 0 := I64_small 0
  have u : I64 1 := I64_small 1
  refine ⟨enters_fn Tryd.func58 (by kernel_rfl) (by kernel_rfl), fun k hk => ?_, fun W k hb hk => ?_⟩
  · have hl := H.hl
    have hi := H.hI k hk
    exact cel3_I64 e _ _ _ _ _ _ _
  · have hl := H.hl
    have hi := H.hI k hk
    exact vsecondCell_any p b V L size out r n aL cL ar cr an cn W H (hV.below hb) k _ _ _ _ ⟨hi.2.1, hi.2.2.1, hi.2.2.2⟩
theorem tm_thirdCell (p b V : Nat) (L : List InsZ) (size out : Int) (r n : List Int) (aL : Option Addr) (cL : Nat) (ar : Option Addr) (cr : Nat) (an : Option Addr) (cn : Nat) (w : World) (H : VF p L size out r n) (hV : VW p b V L size out r n aL cL ar cr an cn w) : TmF V L w 59 (fun _ => tvC p r 2) := by
  have e := em_I64 H.h3 H.h4
  have z : I64 0 := I64_small 0
  have u : I64 1 := I64_small 1
  refine ⟨enters_fn Tryd.func59 (by kernel_rfl) (by kernel_rfl), fun k hk => ?_, fun W k hb hk => ?_⟩
  · have hl := H.hl
    have hi := H.hI k hk
    exact cel3_I64 e _ _ _ _ _ _ _
  · have hl := H.hl
    have hi := H.hI k hk
    exact vthirdCell_any p b V L size out r n aL cL ar cr an cn W H (hV.below hb) k _ _ _ _ ⟨hi.2.1, hi.2.2.1, hi.2.2.2⟩

end Go.Proofs.YtaibngnabhmabajDoor

namespace Go.Proofs.YtaibngnabhmabajDoor
open Go.RowKit Go.Maps

/-- the terms, by the kind of rule -/
def rft (p : Nat) (r : List Int) (kind k : Nat) (o : InsZ) : Int :=
  if kind = 0 then tvC p r 0 o else if kind = 1 then tvC p r 1 o else if kind = 2 then tvC p r 2 o else if kind = 3 then tvW p r o else if kind = 4 then tvM p r k o else if kind = 5 then tvN p r k o else if kind = 6 then tvF p r o else if kind = 7 then tvA p r o else if kind = 8 then tvR r o else tvH o
theorem wof_any (p V : Nat) (L : List InsZ) (size out : Int) (r n : List Int) (aL : Option Addr) (cL : Nat) (ar : Option Addr) (cr : Nat) (an : Option Addr) (cn : Nat) (w : World) (H : VF p L size out r n) (hV : WW p V L size out r n aL cL ar cr an cn w) (kind k : Nat) (hkd : kind < 10) (hk : k < L.length) :
    Calls Tryd.prog 35 #[.pointer (some ⟨V, 0, none⟩), .int .i64 (kind : Int), .int .i64 (k : Int)] w fun e w' => e = .returned (.int .i64 (rft p r kind k (insat L k))) ∧ Below w.heap.size w w' := by
  have : kind = 0 ∨ kind = 1 ∨ kind = 2 ∨ kind = 3 ∨ kind = 4 ∨ kind = 5 ∨ kind = 6 ∨ kind = 7 ∨ kind = 8 ∨ kind = 9 := by omega
  rcases this with rfl | rfl | rfl | rfl | rfl | rfl | rfl | rfl | rfl | rfl
  · exact wof_0 p V L size out r n aL cL ar cr an cn w H hV k hk
  · exact wof_1 p V L size out r n aL cL ar cr an cn w H hV k hk
  · exact wof_2 p V L size out r n aL cL ar cr an cn w H hV k hk
  · exact wof_3 p V L size out r n aL cL ar cr an cn w H hV k hk
  · exact wof_4 p V L size out r n aL cL ar cr an cn w H hV k hk
  · exact wof_5 p V L size out r n aL cL ar cr an cn w H hV k hk
  · exact wof_6 p V L size out r n aL cL ar cr an cn w H hV k hk
  · exact wof_7 p V L size out r n aL cL ar cr an cn w H hV k hk
  · exact wof_8 p V L size out r n aL cL ar cr an cn w H hV k hk
  · exact wof_9 p V L size out r n aL cL ar cr an cn w H hV k hk
theorem rft_I64 {p : Nat} {L : List InsZ} {size out : Int} {r n : List Int} (H : VF p L size out r n) (kind k : Nat) (hk : k < L.length) : I64 (rft p r kind k (insat L k)) := by
  have e := em_I64 H.h3 H.h4
  have z : I64 0 := I64_small 0
  have u : I64 1 := I64_small 1
  have hl := H.hl
  have hi := H.hI k hk
  unfold rft
  refine ite_I64 (cel3_I64 e _ _ _ _ _ _ _) (ite_I64 (cel3_I64 e _ _ _ _ _ _ _) (ite_I64 (cel3_I64 e _ _ _ _ _ _ _) (ite_I64 ?_ (ite_I64 ?_ (ite_I64 ?_ (ite_I64 ?_ (ite_I64 ?_ (ite_I64 ?_ ?_))))))))
  · unfold tvW; exact ite_I64 (e _) (ite_I64 (e _) (ite_I64 (e _) (ite_I64 (e _) (ite_I64 (e _) (ite_I64 (e _) (ite_I64 (e _) (ite_I64 (e _) (ite_I64 (e _) (ite_I64 (e _) (ite_I64 z u))))))))))
  · unfold tvM; exact ite_I64 (e _) (ite_I64 (e _) (ite_I64 (e _) z))
  · unfold tvN; exact ite_I64 (I64_small _) (ite_I64 hi.2.1 (ite_I64 (e _) (ite_I64 (H.fr _) (I64_small _))))
  · unfold tvF; exact ite_I64 (e _) (ite_I64 (H.fr _) (H.fr _))
  · unfold tvA; exact ite_I64 (e _) (H.fr _)
  · unfold tvR; exact ite_I64 (H.fr _) (H.fr _)
  · unfold tvH; exact ite_I64 u z

set_option maxRecDepth 100000 in
set_option maxHeartbeats 4000000 in
theorem wsum_any (p V : Nat) (L : List InsZ) (size out : Int) (r n : List Int) (aL : Option Addr) (cL : Nat) (ar : Option Addr) (cr : Nat) (an : Option Addr) (cn : Nat) (w : World) (H : VF p L size out r n) (hV : WW p V L size out r n aL cL ar cr an cn w) (kind : Nat) (hkd : kind < 10) :
    Calls Tryd.prog 27 #[.pointer (some ⟨V, 0, none⟩), .int .i64 (kind : Int)] w fun e w' => e = .returned (.int .i64 (smt p L r (rft p r kind))) ∧ Below w.heap.size w w' := by
  have h3 := H.h3
  have h4 := H.h4
  have hl := H.hl
  obtain ⟨br, orr, har, hrw⟩ := rowB_at hV.row H.hr
  subst har
  obtain ⟨nL, hnL⟩ : ∃ nL, nL = L.length := ⟨_, rfl⟩
  have HNL := hid hnL
  have HV := hid hV
  have HH := hid H
  have HRW := hid hrw
  have HE : Hid (smt p L r (rft p r kind) = smz p (sel r) (fun k => rft p r kind k (insat L k)) nL) := by unfold Hid; rw [hnL]; rfl
  obtain ⟨R, hR⟩ : ∃ R, R = smt p L r (rft p r kind) := ⟨_, rfl⟩
  rw [← hR] at HE ⊢
  have HLR : Hid ((r.length : Int) = 20 + (nL : Int)) := by have := H.hr; unfold Hid; omega
  have HXC : Hid (∀ W, Below w.heap.size w W → W.cell? ⟨V, 0, none⟩ = some (.int .i64 p) ∧ W.cell? ⟨V, 2, none⟩ = some (.slice aL nL cL) ∧ W.cell? ⟨V, 4, none⟩ = some (.slice (some ⟨br, orr, none⟩) r.length cr)) := fun W h => by
    have hc := (hV.below h).cells
    rw [hnL]
    exact ⟨hc.1, hc.2.2.1, hc.2.2.2.2.1⟩
  rw [← hnL] at hl
  obtain ⟨lr, hlr⟩ : ∃ lr, lr = r.length := ⟨_, rfl⟩
  rw [← hlr] at HLR HXC
  clear hnL hrw hR hV H hlr
  go_enter Tryd.func27, Tryd.ntmps27
  go_wp2_with fail
  go_loopw [5, 6, 7] (fun ov iv _ wr => ∃ k : Nat, k ≤ nL ∧ iv = .int .i64 k ∧ ov = .int .i64 (smz p (sel r) (fun k => rft p r kind k (insat L k)) k) ∧ Hid (Below w.heap.size w wr)) (fun _ iv _ _ => nL - (intOf iv).toNat)
  case atStart => exact ⟨0, Nat.zero_le _, rfl, rfl, Below.refl _ _⟩
  case round =>
    obtain ⟨k, hk, rfl, rfl, HBw⟩ := hrel
    obtain ⟨c0, c2, c4⟩ := HXC.out wr HBw.out
    by_cases hlt : k < nL
    · have hlt2 : (k : Int) < (nL : Int) := by omega
      have hks : IntKind.i64.wrap ((k : Int) + 1) = (k : Int) + 1 := by rw [IntKind.wrap_i64]; omega
      obtain ⟨m, hm⟩ : ∃ m, m = 20 + k := ⟨_, rfl⟩
      have em : 20 + (k : Int) = (m : Int) := by omega
      have wm : IntKind.i64.wrap (m : Int) = (m : Int) := by rw [IntKind.wrap_i64]; omega
      have lm : (m : Int) < (lr : Int) := by have := HLR.out; omega
      have HOF := hid (wof_any p V L size out r n aL cL _ cr an cn wr HH.out (HV.out.below HBw.out) kind k hkd (by have := HNL.out; omega))
      have HRM : Hid (∀ W, Below w.heap.size w W → W.cell? ⟨br, orr + m, none⟩ = some (.int .i64 (zat r m))) := fun W h => (h.cell (p := ⟨br, orr + m, none⟩) (World.block_lt_of_cell? _ _ (HRW.out m (by have := HNL.out; omega)))).trans (HRW.out m (by have := HNL.out; omega))
      have hfi := rft_I64 HH.out kind k (by have := HNL.out; omega)
      have hfm := HH.out.fr m
      have bs0 := smz_bd h3 (sel r) (fun k => rft p r kind k (insat L k)) k
      have hbs : I64 (smz p (sel r) (fun k => rft p r kind k (insat L k)) k) := by unfold I64; omega
      have hem := em_I64 h3 h4 (rft p r kind k (insat L k) * zat r m)
      have HML : Hid (∀ W : World, W.cell? ⟨V, 0, none⟩ = some (.int .i64 p) → Calls Tryd.prog 23 #[.pointer (some ⟨V, 0, none⟩), .int .i64 (rft p r kind k (insat L k)), .int .i64 (zat r m)] W fun e w' => e = .returned (.int .i64 (rft p r kind k (insat L k) * zat r m % (p : Int))) ∧ w' = W) := fun W h => wmul_any p V _ _ W h3 h4 h hfi hfm
      have HAD : Hid (∀ W : World, W.cell? ⟨V, 0, none⟩ = some (.int .i64 p) → Calls Tryd.prog 25 #[.pointer (some ⟨V, 0, none⟩), .int .i64 (smz p (sel r) (fun k => rft p r kind k (insat L k)) k), .int .i64 (rft p r kind k (insat L k) * zat r m % (p : Int))] W fun e w' => e = .returned (.int .i64 (smz p (sel r) (fun k => rft p r kind k (insat L k)) (k + 1))) ∧ w' = W) := fun W h => by
        rw [smz, show sel r k = zat r m by rw [hm]; rfl, Int.mul_comm (zat r m), ← em_add2]
        exact wadd_any p V _ _ W h3 h4 h hbs hem
      obtain ⟨t2, ht2⟩ : ∃ t, t = smz p (sel r) (fun k => rft p r kind k (insat L k)) (k + 1) := ⟨_, rfl⟩
      have HT2 := hid ht2
      rw [← ht2] at HAD
      generalize rft p r kind k (insat L k) * zat r m % (p : Int) = t1 at *
      generalize smz p (sel r) (fun k => rft p r kind k (insat L k)) k = t0 at *
      generalize rft p r kind k (insat L k) = fk at *
      generalize zat r m = sm at *
      clear hfi hfm bs0 hbs hem ht2 hm
      go_wp2_with fail
      refine HOF.out.mono ?_
      rintro e w1 ⟨rfl, hb1⟩
      have HB1 := hid (HBw.out.trans (hb1.mono HBw.out.size))
      clear hb1 HOF c0 c2 c4
      obtain ⟨c0, c2, c4⟩ := HXC.out w1 HB1.out
      have cm := HRM.out w1 HB1.out
      go_wp2_with fail
      refine (HML.out _ c0).mono ?_
      rintro e w2 ⟨rfl, hw⟩
      have hw2 := hw.symm
      subst hw2
      clear hw
      go_wp2_with fail
      refine (HAD.out _ c0).mono ?_
      rintro e w2 ⟨rfl, hw⟩
      have hw2 := hw.symm
      subst hw2
      clear hw
      go_wp2_with fail
      go_roundw
      case rel => exact ⟨k + 1, by omega, by go_num, by rw [HT2.out], HB1⟩
      case measure => simp [intOf]; omega
    · have hlt2 : ¬ (k : Int) < (nL : Int) := by omega
      obtain rfl : k = nL := by omega
      go_wp2_with fail
      go_ret
      exact ⟨by rw [HE.out]; rfl, HBw.out⟩

set_option maxRecDepth 100000 in
set_option maxHeartbeats 2000000 in
theorem worder_false (p V : Nat) (a v b u : Int) (w : World) (h3 : 3 ≤ p) (h4 : p ≤ 2147483647) (hp : w.cell? ⟨V, 0, none⟩ = some (.int .i64 p)) (ha : I64 a) (hv : I64 v) (hb : I64 b) (hu : I64 u) :
    Calls Tryd.prog 28 #[.pointer (some ⟨V, 0, none⟩), .int .i64 a, .int .i64 v, .int .i64 b, .int .i64 u, .bool false] w fun e w' => e = .returned (.int .i64 (ord1 p a b)) ∧ w' = w := by
  have e := em_I64 h3 h4
  have HC0 := hid (wsub_any p V b a w h3 h4 hp hb ha)
  have HC1 := hid (wsub_any p V u v w h3 h4 hp hu hv)
  have HC2 : Hid (Calls Tryd.prog 24 #[.pointer (some ⟨V, 0, none⟩), .int .i64 ((b - a) % (p : Int)), .int .i64 1] w fun e w' => e = .returned (.int .i64 ((b - a - 1) % (p : Int))) ∧ w' = w) := by
    unfold Hid
    rw [show (b - a - 1) % (p : Int) = ((b - a) % (p : Int) - 1) % (p : Int) from (em_sub1 _ _ _).symm]
    exact wsub_any p V _ _ w h3 h4 hp (e _) (show I64 1 from I64_small 1)
  have HC3 : Hid (Calls Tryd.prog 23 #[.pointer (some ⟨V, 0, none⟩), .int .i64 ((b - a) % (p : Int)), .int .i64 ((b - a - 1) % (p : Int))] w fun e w' => e = .returned (.int .i64 (ord1 p a b)) ∧ w' = w) := by
    unfold Hid
    rw [ord1, ← em_mul1, ← em_mul2]
    exact wmul_any p V _ _ w h3 h4 hp (e _) (e _)
  clear e ha hv hb hu
  generalize ord1 p a b = t4 at *
  generalize (b - a - 1) % (p : Int) = t3 at *
  generalize (b - a) % (p : Int) = t1 at *
  generalize (u - v) % (p : Int) = t2 at *
  go_enter Tryd.func28, Tryd.ntmps28
  go_wp2_with fail
  refine HC0.out.mono ?_
  rintro e w1 ⟨rfl, hw⟩
  have hw1 := hw.symm
  subst hw1
  clear hw
  go_wp2_with fail
  refine HC1.out.mono ?_
  rintro e w1 ⟨rfl, hw⟩
  have hw1 := hw.symm
  subst hw1
  clear hw
  go_wp2_with fail
  refine HC2.out.mono ?_
  rintro e w1 ⟨rfl, hw⟩
  have hw1 := hw.symm
  subst hw1
  clear hw
  go_wp2_with fail
  refine HC3.out.mono ?_
  rintro e w1 ⟨rfl, hw⟩
  have hw1 := hw.symm
  subst hw1
  clear hw
  go_wp2_with fail
  go_ret
  exact ⟨rfl, rfl⟩

set_option maxRecDepth 100000 in
set_option maxHeartbeats 2000000 in
theorem worder_true (p V : Nat) (a v b u : Int) (w : World) (h3 : 3 ≤ p) (h4 : p ≤ 2147483647) (hp : w.cell? ⟨V, 0, none⟩ = some (.int .i64 p)) (ha : I64 a) (hv : I64 v) (hb : I64 b) (hu : I64 u) :
    Calls Tryd.prog 28 #[.pointer (some ⟨V, 0, none⟩), .int .i64 a, .int .i64 v, .int .i64 b, .int .i64 u, .bool true] w fun e w' => e = .returned (.int .i64 (ord2 p a v b u)) ∧ w' = w := by
  have e := em_I64 h3 h4
  have HC0 := hid (wsub_any p V b a w h3 h4 hp hb ha)
  have HC1 := hid (wsub_any p V u v w h3 h4 hp hu hv)
  have HC2 : Hid (Calls Tryd.prog 24 #[.pointer (some ⟨V, 0, none⟩), .int .i64 ((b - a) % (p : Int)), .int .i64 1] w fun e w' => e = .returned (.int .i64 ((b - a - 1) % (p : Int))) ∧ w' = w) := by
    unfold Hid
    rw [show (b - a - 1) % (p : Int) = ((b - a) % (p : Int) - 1) % (p : Int) from (em_sub1 _ _ _).symm]
    exact wsub_any p V _ _ w h3 h4 hp (e _) (show I64 1 from I64_small 1)
  have HC3 : Hid (Calls Tryd.prog 23 #[.pointer (some ⟨V, 0, none⟩), .int .i64 ((b - a - 1) % (p : Int)), .int .i64 ((u - v) % (p : Int))] w fun e w' => e = .returned (.int .i64 (ord2 p a v b u)) ∧ w' = w) := by
    unfold Hid
    rw [ord2, ← em_mul1, ← em_mul2]
    exact wmul_any p V _ _ w h3 h4 hp (e _) (e _)
  clear e ha hv hb hu
  generalize ord2 p a v b u = t4 at *
  generalize (b - a - 1) % (p : Int) = t3 at *
  generalize (b - a) % (p : Int) = t1 at *
  generalize (u - v) % (p : Int) = t2 at *
  go_enter Tryd.func28, Tryd.ntmps28
  go_wp2_with fail
  refine HC0.out.mono ?_
  rintro e w1 ⟨rfl, hw⟩
  have hw1 := hw.symm
  subst hw1
  clear hw
  go_wp2_with fail
  refine HC1.out.mono ?_
  rintro e w1 ⟨rfl, hw⟩
  have hw1 := hw.symm
  subst hw1
  clear hw
  go_wp2_with fail
  refine HC2.out.mono ?_
  rintro e w1 ⟨rfl, hw⟩
  have hw1 := hw.symm
  subst hw1
  clear hw
  go_wp2_with fail
  refine HC3.out.mono ?_
  rintro e w1 ⟨rfl, hw⟩
  have hw1 := hw.symm
  subst hw1
  clear hw
  go_wp2_with fail
  go_ret
  exact ⟨rfl, rfl⟩


end Go.Proofs.YtaibngnabhmabajDoor

namespace Go.Proofs.YtaibngnabhmabajDoor
open Go.RowKit Go.Maps

set_option maxRecDepth 100000 in
set_option maxHeartbeats 4000000 in
theorem wedge_18 (p V : Nat) (L : List InsZ) (size out : Int) (r n : List Int) (aL : Option Addr) (cL : Nat) (ar : Option Addr) (cr : Nat) (an : Option Addr) (cn : Nat) (w : World) (H : VF p L size out r n) (hV : WW p V L size out r n aL cL ar cr an cn w) :
    Calls Tryd.prog 29 #[.pointer (some ⟨V, 0, none⟩), .int .i64 18] w fun e w' => e = .returned (.int .i64 ((zat r 20 - 1) % (p : Int))) ∧ Below w.heap.size w w' := by
  have h3 := H.h3
  have h4 := H.h4
  have e := em_I64 h3 h4
  have es := fun s f => (show I64 (smt p L s f) by have := smt_bd h3 L s f; unfold I64; omega)
  obtain ⟨br, orr, har, hrw⟩ := rowB_at hV.row H.hr
  subst har
  obtain ⟨bn, onn, han, hnw⟩ := rowB_at hV.nxt H.hn
  subst han
  have hh1 := H.h1
  have hl := H.hl
  have HX : Hid (∀ W, Below w.heap.size w W → (W.cell? ⟨V, 0, none⟩ = some (.int .i64 p) ∧ W.cell? ⟨V, 1, none⟩ = some (.int .i64 size) ∧ W.cell? ⟨V, 2, none⟩ = some (.slice aL L.length cL) ∧ W.cell? ⟨V, 3, none⟩ = some (.int .i64 out) ∧ W.cell? ⟨V, 4, none⟩ = some (.slice (some ⟨br, orr, none⟩) r.length cr) ∧ W.cell? ⟨V, 5, none⟩ = some (.slice (some ⟨bn, onn, none⟩) n.length cn) ∧ W.cell? ⟨br, orr + 20, none⟩ = some (.int .i64 (zat r 20)))) := fun W h => by
    have hc := (hV.below h).cells
    exact ⟨hc.1, hc.2.1, hc.2.2.1, hc.2.2.2.1, hc.2.2.2.2.1, hc.2.2.2.2.2, (h.cell (p := ⟨br, orr + 20, none⟩) (World.block_lt_of_cell? _ _ (hrw 20 (by omega)))).trans (hrw 20 (by omega))⟩
  have l20 : (20 : Int) < (r.length : Int) := by have := H.hr; omega
  have HC0 : Hid (∀ W : World, W.cell? ⟨V, 0, none⟩ = some (.int .i64 p) → Calls Tryd.prog 24 #[.pointer (some ⟨V, 0, none⟩), .int .i64 (zat r 20), .int .i64 (1 : Int)] W fun e w' => e = .returned (.int .i64 (((zat r 20) - (1 : Int)) % (p : Int))) ∧ w' = W) := fun W h => wsub_any p V _ _ W h3 h4 h (H.fr 20) (show I64 1 from I64_small 1)
  have HB0 : Hid (Below w.heap.size w w) := Below.refl _ _
  obtain ⟨c0, c1, c2, c3, c4, c5, r20⟩ := HX.out w HB0.out
  clear H hV hrw hnw e es hh1
  generalize (((zat r 20) - (1 : Int)) % (p : Int)) = t1 at *
  generalize zat r 20 = x20 at *
  generalize r.length = lr at *
  generalize n.length = ln at *
  generalize L.length = nL at *
  go_enter Tryd.func29, Tryd.ntmps29
  go_wp2_with fail
  refine (HC0.out _ c0).mono ?_
  rintro e w' ⟨rfl, hw'⟩
  have hw'' := hw'.symm
  subst hw''
  clear hw'
  go_wp2_with fail
  go_ret
  exact ⟨rfl, HB0.out⟩

set_option maxRecDepth 100000 in
set_option maxHeartbeats 4000000 in
theorem wedge_19 (p V : Nat) (L : List InsZ) (size out : Int) (r n : List Int) (aL : Option Addr) (cL : Nat) (ar : Option Addr) (cr : Nat) (an : Option Addr) (cn : Nat) (w : World) (H : VF p L size out r n) (hV : WW p V L size out r n aL cL ar cr an cn w) :
    Calls Tryd.prog 29 #[.pointer (some ⟨V, 0, none⟩), .int .i64 19] w fun e w' => e = .returned (.int .i64 ((zat r 0 - 1) % (p : Int))) ∧ Below w.heap.size w w' := by
  have h3 := H.h3
  have h4 := H.h4
  have e := em_I64 h3 h4
  have es := fun s f => (show I64 (smt p L s f) by have := smt_bd h3 L s f; unfold I64; omega)
  obtain ⟨br, orr, har, hrw⟩ := rowB_at hV.row H.hr
  subst har
  obtain ⟨bn, onn, han, hnw⟩ := rowB_at hV.nxt H.hn
  subst han
  have hh1 := H.h1
  have hl := H.hl
  have HX : Hid (∀ W, Below w.heap.size w W → (W.cell? ⟨V, 0, none⟩ = some (.int .i64 p) ∧ W.cell? ⟨V, 1, none⟩ = some (.int .i64 size) ∧ W.cell? ⟨V, 2, none⟩ = some (.slice aL L.length cL) ∧ W.cell? ⟨V, 3, none⟩ = some (.int .i64 out) ∧ W.cell? ⟨V, 4, none⟩ = some (.slice (some ⟨br, orr, none⟩) r.length cr) ∧ W.cell? ⟨V, 5, none⟩ = some (.slice (some ⟨bn, onn, none⟩) n.length cn) ∧ W.cell? ⟨br, orr, none⟩ = some (.int .i64 (zat r 0)))) := fun W h => by
    have hc := (hV.below h).cells
    exact ⟨hc.1, hc.2.1, hc.2.2.1, hc.2.2.2.1, hc.2.2.2.2.1, hc.2.2.2.2.2, (h.cell (p := ⟨br, orr, none⟩) (World.block_lt_of_cell? _ _ (hrw 0 (by omega)))).trans (hrw 0 (by omega))⟩
  have l0 : (0 : Int) < (r.length : Int) := by have := H.hr; omega
  have l0' : 0 < r.length := by have := H.hr; omega
  have HC0 : Hid (∀ W : World, W.cell? ⟨V, 0, none⟩ = some (.int .i64 p) → Calls Tryd.prog 24 #[.pointer (some ⟨V, 0, none⟩), .int .i64 (zat r 0), .int .i64 (1 : Int)] W fun e w' => e = .returned (.int .i64 (((zat r 0) - (1 : Int)) % (p : Int))) ∧ w' = W) := fun W h => wsub_any p V _ _ W h3 h4 h (H.fr 0) (show I64 1 from I64_small 1)
  have HB0 : Hid (Below w.heap.size w w) := Below.refl _ _
  obtain ⟨c0, c1, c2, c3, c4, c5, r0⟩ := HX.out w HB0.out
  clear H hV hrw hnw e es hh1
  generalize (((zat r 0) - (1 : Int)) % (p : Int)) = t1 at *
  generalize zat r 0 = x0 at *
  generalize r.length = lr at *
  generalize n.length = ln at *
  generalize L.length = nL at *
  go_enter Tryd.func29, Tryd.ntmps29
  go_wp2_with fail
  refine (HC0.out _ c0).mono ?_
  rintro e w' ⟨rfl, hw'⟩
  have hw'' := hw'.symm
  subst hw''
  clear hw'
  go_wp2_with fail
  go_ret
  exact ⟨rfl, HB0.out⟩

set_option maxRecDepth 100000 in
set_option maxHeartbeats 4000000 in
theorem wedge_20 (p V : Nat) (L : List InsZ) (size out : Int) (r n : List Int) (aL : Option Addr) (cL : Nat) (ar : Option Addr) (cr : Nat) (an : Option Addr) (cn : Nat) (w : World) (H : VF p L size out r n) (hV : WW p V L size out r n aL cL ar cr an cn w) :
    Calls Tryd.prog 29 #[.pointer (some ⟨V, 0, none⟩), .int .i64 20] w fun e w' => e = .returned (.int .i64 ((zat r 1 - 1 - size) % (p : Int))) ∧ Below w.heap.size w w' := by
  have h3 := H.h3
  have h4 := H.h4
  have e := em_I64 h3 h4
  have es := fun s f => (show I64 (smt p L s f) by have := smt_bd h3 L s f; unfold I64; omega)
  obtain ⟨br, orr, har, hrw⟩ := rowB_at hV.row H.hr
  subst har
  obtain ⟨bn, onn, han, hnw⟩ := rowB_at hV.nxt H.hn
  subst han
  have hh1 := H.h1
  have hl := H.hl
  have HX : Hid (∀ W, Below w.heap.size w W → (W.cell? ⟨V, 0, none⟩ = some (.int .i64 p) ∧ W.cell? ⟨V, 1, none⟩ = some (.int .i64 size) ∧ W.cell? ⟨V, 2, none⟩ = some (.slice aL L.length cL) ∧ W.cell? ⟨V, 3, none⟩ = some (.int .i64 out) ∧ W.cell? ⟨V, 4, none⟩ = some (.slice (some ⟨br, orr, none⟩) r.length cr) ∧ W.cell? ⟨V, 5, none⟩ = some (.slice (some ⟨bn, onn, none⟩) n.length cn) ∧ W.cell? ⟨br, orr + 1, none⟩ = some (.int .i64 (zat r 1)))) := fun W h => by
    have hc := (hV.below h).cells
    exact ⟨hc.1, hc.2.1, hc.2.2.1, hc.2.2.2.1, hc.2.2.2.2.1, hc.2.2.2.2.2, (h.cell (p := ⟨br, orr + 1, none⟩) (World.block_lt_of_cell? _ _ (hrw 1 (by omega)))).trans (hrw 1 (by omega))⟩
  have l1 : (1 : Int) < (r.length : Int) := by have := H.hr; omega
  have l1' : 1 < r.length := by have := H.hr; omega
  have HC0 : Hid (∀ W : World, W.cell? ⟨V, 0, none⟩ = some (.int .i64 p) → Calls Tryd.prog 24 #[.pointer (some ⟨V, 0, none⟩), .int .i64 (zat r 1), .int .i64 (1 : Int)] W fun e w' => e = .returned (.int .i64 (((zat r 1) - (1 : Int)) % (p : Int))) ∧ w' = W) := fun W h => wsub_any p V _ _ W h3 h4 h (H.fr 1) (show I64 1 from I64_small 1)
  have HC1 : Hid (∀ W : World, W.cell? ⟨V, 0, none⟩ = some (.int .i64 p) → Calls Tryd.prog 24 #[.pointer (some ⟨V, 0, none⟩), .int .i64 (((zat r 1) - (1 : Int)) % (p : Int)), .int .i64 size] W fun e w' => e = .returned (.int .i64 (((((zat r 1) - (1 : Int)) % (p : Int)) - size) % (p : Int))) ∧ w' = W) := fun W h => wsub_any p V _ _ W h3 h4 h (e _) H.hsz
  have HE : Hid ((zat r 1 - 1 - size) % (p : Int) = (((((zat r 1) - (1 : Int)) % (p : Int)) - size) % (p : Int))) := by
    unfold Hid
    rw [em_sub1]
  obtain ⟨R, hR⟩ : ∃ R, R = (zat r 1 - 1 - size) % (p : Int) := ⟨_, rfl⟩
  rw [← hR] at HE ⊢
  clear hR
  have HB0 : Hid (Below w.heap.size w w) := Below.refl _ _
  obtain ⟨c0, c1, c2, c3, c4, c5, r1⟩ := HX.out w HB0.out
  clear H hV hrw hnw e es hh1
  generalize (((((zat r 1) - (1 : Int)) % (p : Int)) - size) % (p : Int)) = t2 at *
  generalize (((zat r 1) - (1 : Int)) % (p : Int)) = t1 at *
  generalize zat r 1 = x1 at *
  generalize r.length = lr at *
  generalize n.length = ln at *
  generalize L.length = nL at *
  go_enter Tryd.func29, Tryd.ntmps29
  go_wp2_with fail
  refine (HC0.out _ c0).mono ?_
  rintro e w' ⟨rfl, hw'⟩
  have hw'' := hw'.symm
  subst hw''
  clear hw'
  go_wp2_with fail
  refine (HC1.out _ c0).mono ?_
  rintro e w' ⟨rfl, hw'⟩
  have hw'' := hw'.symm
  subst hw''
  clear hw'
  go_wp2_with fail
  go_ret
  exact ⟨by have h := HE.out; subst h; rfl, HB0.out⟩

set_option maxRecDepth 100000 in
set_option maxHeartbeats 4000000 in
theorem wedge_21 (p V : Nat) (L : List InsZ) (size out : Int) (r n : List Int) (aL : Option Addr) (cL : Nat) (ar : Option Addr) (cr : Nat) (an : Option Addr) (cn : Nat) (w : World) (H : VF p L size out r n) (hV : WW p V L size out r n aL cL ar cr an cn w) :
    Calls Tryd.prog 29 #[.pointer (some ⟨V, 0, none⟩), .int .i64 21] w fun e w' => e = .returned (.int .i64 (zat r 2 % (p : Int))) ∧ Below w.heap.size w w' := by
  have h3 := H.h3
  have h4 := H.h4
  have e := em_I64 h3 h4
  have es := fun s f => (show I64 (smt p L s f) by have := smt_bd h3 L s f; unfold I64; omega)
  obtain ⟨br, orr, har, hrw⟩ := rowB_at hV.row H.hr
  subst har
  obtain ⟨bn, onn, han, hnw⟩ := rowB_at hV.nxt H.hn
  subst han
  have hh1 := H.h1
  have hl := H.hl
  have HX : Hid (∀ W, Below w.heap.size w W → (W.cell? ⟨V, 0, none⟩ = some (.int .i64 p) ∧ W.cell? ⟨V, 1, none⟩ = some (.int .i64 size) ∧ W.cell? ⟨V, 2, none⟩ = some (.slice aL L.length cL) ∧ W.cell? ⟨V, 3, none⟩ = some (.int .i64 out) ∧ W.cell? ⟨V, 4, none⟩ = some (.slice (some ⟨br, orr, none⟩) r.length cr) ∧ W.cell? ⟨V, 5, none⟩ = some (.slice (some ⟨bn, onn, none⟩) n.length cn) ∧ W.cell? ⟨br, orr + 2, none⟩ = some (.int .i64 (zat r 2)))) := fun W h => by
    have hc := (hV.below h).cells
    exact ⟨hc.1, hc.2.1, hc.2.2.1, hc.2.2.2.1, hc.2.2.2.2.1, hc.2.2.2.2.2, (h.cell (p := ⟨br, orr + 2, none⟩) (World.block_lt_of_cell? _ _ (hrw 2 (by omega)))).trans (hrw 2 (by omega))⟩
  have l2 : (2 : Int) < (r.length : Int) := by have := H.hr; omega
  have HC0 : Hid (∀ W : World, Calls Tryd.prog 26 #[.int .i64 p, .int .i64 (zat r 2)] W fun e w' => e = .returned (.int .i64 ((zat r 2) % (p : Int))) ∧ w' = W) := fun W => rof_any p _ W h3 h4 (H.fr 2).1 (H.fr 2).2
  have HB0 : Hid (Below w.heap.size w w) := Below.refl _ _
  obtain ⟨c0, c1, c2, c3, c4, c5, r2⟩ := HX.out w HB0.out
  clear H hV hrw hnw e es hh1
  generalize ((zat r 2) % (p : Int)) = t1 at *
  generalize zat r 2 = x2 at *
  generalize r.length = lr at *
  generalize n.length = ln at *
  generalize L.length = nL at *
  go_enter Tryd.func29, Tryd.ntmps29
  go_wp2_with fail
  have QP : Hid (∀ nn, (w.drewN nn).cell? ⟨V, 0, none⟩ = some (.int .i64 p)) := fun nn => c0
  go_quiet (first
    | (go_at_call 26; with_reducible exact Calls.quiet_of_same (HC0.out _)))
  go_wp2_with fail
  go_ret
  exact ⟨rfl, below_drewN HB0.out _⟩

set_option maxRecDepth 100000 in
set_option maxHeartbeats 4000000 in
theorem wedge_22 (p V : Nat) (L : List InsZ) (size out : Int) (r n : List Int) (aL : Option Addr) (cL : Nat) (ar : Option Addr) (cr : Nat) (an : Option Addr) (cn : Nat) (w : World) (H : VF p L size out r n) (hV : WW p V L size out r n aL cL ar cr an cn w) :
    Calls Tryd.prog 29 #[.pointer (some ⟨V, 0, none⟩), .int .i64 22] w fun e w' => e = .returned (.int .i64 (zat r 12 % (p : Int))) ∧ Below w.heap.size w w' := by
  have h3 := H.h3
  have h4 := H.h4
  have e := em_I64 h3 h4
  have es := fun s f => (show I64 (smt p L s f) by have := smt_bd h3 L s f; unfold I64; omega)
  obtain ⟨br, orr, har, hrw⟩ := rowB_at hV.row H.hr
  subst har
  obtain ⟨bn, onn, han, hnw⟩ := rowB_at hV.nxt H.hn
  subst han
  have hh1 := H.h1
  have hl := H.hl
  have HX : Hid (∀ W, Below w.heap.size w W → (W.cell? ⟨V, 0, none⟩ = some (.int .i64 p) ∧ W.cell? ⟨V, 1, none⟩ = some (.int .i64 size) ∧ W.cell? ⟨V, 2, none⟩ = some (.slice aL L.length cL) ∧ W.cell? ⟨V, 3, none⟩ = some (.int .i64 out) ∧ W.cell? ⟨V, 4, none⟩ = some (.slice (some ⟨br, orr, none⟩) r.length cr) ∧ W.cell? ⟨V, 5, none⟩ = some (.slice (some ⟨bn, onn, none⟩) n.length cn) ∧ W.cell? ⟨br, orr + 12, none⟩ = some (.int .i64 (zat r 12)))) := fun W h => by
    have hc := (hV.below h).cells
    exact ⟨hc.1, hc.2.1, hc.2.2.1, hc.2.2.2.1, hc.2.2.2.2.1, hc.2.2.2.2.2, (h.cell (p := ⟨br, orr + 12, none⟩) (World.block_lt_of_cell? _ _ (hrw 12 (by omega)))).trans (hrw 12 (by omega))⟩
  have l12 : (12 : Int) < (r.length : Int) := by have := H.hr; omega
  have HC0 : Hid (∀ W : World, Calls Tryd.prog 26 #[.int .i64 p, .int .i64 (zat r 12)] W fun e w' => e = .returned (.int .i64 ((zat r 12) % (p : Int))) ∧ w' = W) := fun W => rof_any p _ W h3 h4 (H.fr 12).1 (H.fr 12).2
  have HB0 : Hid (Below w.heap.size w w) := Below.refl _ _
  obtain ⟨c0, c1, c2, c3, c4, c5, r12⟩ := HX.out w HB0.out
  clear H hV hrw hnw e es hh1
  generalize ((zat r 12) % (p : Int)) = t1 at *
  generalize zat r 12 = x12 at *
  generalize r.length = lr at *
  generalize n.length = ln at *
  generalize L.length = nL at *
  go_enter Tryd.func29, Tryd.ntmps29
  go_wp2_with fail
  have QP : Hid (∀ nn, (w.drewN nn).cell? ⟨V, 0, none⟩ = some (.int .i64 p)) := fun nn => c0
  go_quiet (first
    | (go_at_call 26; with_reducible exact Calls.quiet_of_same (HC0.out _)))
  go_wp2_with fail
  go_ret
  exact ⟨rfl, below_drewN HB0.out _⟩

set_option maxRecDepth 100000 in
set_option maxHeartbeats 4000000 in
theorem wedge_23 (p V : Nat) (L : List InsZ) (size out : Int) (r n : List Int) (aL : Option Addr) (cL : Nat) (ar : Option Addr) (cr : Nat) (an : Option Addr) (cn : Nat) (w : World) (H : VF p L size out r n) (hV : WW p V L size out r n aL cL ar cr an cn w) :
    Calls Tryd.prog 29 #[.pointer (some ⟨V, 0, none⟩), .int .i64 23] w fun e w' => e = .returned (.int .i64 (zat r 16 % (p : Int))) ∧ Below w.heap.size w w' := by
  have h3 := H.h3
  have h4 := H.h4
  have e := em_I64 h3 h4
  have es := fun s f => (show I64 (smt p L s f) by have := smt_bd h3 L s f; unfold I64; omega)
  obtain ⟨br, orr, har, hrw⟩ := rowB_at hV.row H.hr
  subst har
  obtain ⟨bn, onn, han, hnw⟩ := rowB_at hV.nxt H.hn
  subst han
  have hh1 := H.h1
  have hl := H.hl
  have HX : Hid (∀ W, Below w.heap.size w W → (W.cell? ⟨V, 0, none⟩ = some (.int .i64 p) ∧ W.cell? ⟨V, 1, none⟩ = some (.int .i64 size) ∧ W.cell? ⟨V, 2, none⟩ = some (.slice aL L.length cL) ∧ W.cell? ⟨V, 3, none⟩ = some (.int .i64 out) ∧ W.cell? ⟨V, 4, none⟩ = some (.slice (some ⟨br, orr, none⟩) r.length cr) ∧ W.cell? ⟨V, 5, none⟩ = some (.slice (some ⟨bn, onn, none⟩) n.length cn) ∧ W.cell? ⟨br, orr + 16, none⟩ = some (.int .i64 (zat r 16)))) := fun W h => by
    have hc := (hV.below h).cells
    exact ⟨hc.1, hc.2.1, hc.2.2.1, hc.2.2.2.1, hc.2.2.2.2.1, hc.2.2.2.2.2, (h.cell (p := ⟨br, orr + 16, none⟩) (World.block_lt_of_cell? _ _ (hrw 16 (by omega)))).trans (hrw 16 (by omega))⟩
  have l16 : (16 : Int) < (r.length : Int) := by have := H.hr; omega
  have HC0 : Hid (∀ W : World, Calls Tryd.prog 26 #[.int .i64 p, .int .i64 (zat r 16)] W fun e w' => e = .returned (.int .i64 ((zat r 16) % (p : Int))) ∧ w' = W) := fun W => rof_any p _ W h3 h4 (H.fr 16).1 (H.fr 16).2
  have HB0 : Hid (Below w.heap.size w w) := Below.refl _ _
  obtain ⟨c0, c1, c2, c3, c4, c5, r16⟩ := HX.out w HB0.out
  clear H hV hrw hnw e es hh1
  generalize ((zat r 16) % (p : Int)) = t1 at *
  generalize zat r 16 = x16 at *
  generalize r.length = lr at *
  generalize n.length = ln at *
  generalize L.length = nL at *
  go_enter Tryd.func29, Tryd.ntmps29
  go_wp2_with fail
  have QP : Hid (∀ nn, (w.drewN nn).cell? ⟨V, 0, none⟩ = some (.int .i64 p)) := fun nn => c0
  go_quiet (first
    | (go_at_call 26; with_reducible exact Calls.quiet_of_same (HC0.out _)))
  go_wp2_with fail
  go_ret
  exact ⟨rfl, below_drewN HB0.out _⟩

set_option maxRecDepth 100000 in
set_option maxHeartbeats 4000000 in
theorem wedge_24 (p V : Nat) (L : List InsZ) (size out : Int) (r n : List Int) (aL : Option Addr) (cL : Nat) (ar : Option Addr) (cr : Nat) (an : Option Addr) (cn : Nat) (w : World) (H : VF p L size out r n) (hV : WW p V L size out r n aL cL ar cr an cn w) :
    Calls Tryd.prog 29 #[.pointer (some ⟨V, 0, none⟩), .int .i64 24] w fun e w' => e = .returned (.int .i64 ((smt p L r (fun _ => tvH) - 1) % (p : Int))) ∧ Below w.heap.size w w' := by
  have h3 := H.h3
  have h4 := H.h4
  have e := em_I64 h3 h4
  have es := fun s f => (show I64 (smt p L s f) by have := smt_bd h3 L s f; unfold I64; omega)
  obtain ⟨br, orr, har, hrw⟩ := rowB_at hV.row H.hr
  subst har
  obtain ⟨bn, onn, han, hnw⟩ := rowB_at hV.nxt H.hn
  subst han
  have hh1 := H.h1
  have hl := H.hl
  have HX : Hid (∀ W, Below w.heap.size w W → (W.cell? ⟨V, 0, none⟩ = some (.int .i64 p) ∧ W.cell? ⟨V, 1, none⟩ = some (.int .i64 size) ∧ W.cell? ⟨V, 2, none⟩ = some (.slice aL L.length cL) ∧ W.cell? ⟨V, 3, none⟩ = some (.int .i64 out) ∧ W.cell? ⟨V, 4, none⟩ = some (.slice (some ⟨br, orr, none⟩) r.length cr) ∧ W.cell? ⟨V, 5, none⟩ = some (.slice (some ⟨bn, onn, none⟩) n.length cn))) := fun W h => by
    have hc := (hV.below h).cells
    exact ⟨hc.1, hc.2.1, hc.2.2.1, hc.2.2.2.1, hc.2.2.2.2.1, hc.2.2.2.2.2⟩
  have HC0 : Hid (∀ W, Below w.heap.size w W → Calls Tryd.prog 27 #[.pointer (some ⟨V, 0, none⟩), .int .i64 9] W fun e w' => e = .returned (.int .i64 (smt p L r (rft p r 9))) ∧ Below W.heap.size W w') := fun W h => wsum_any p V L size out r n aL cL (some ⟨br, orr, none⟩) cr (some ⟨bn, onn, none⟩) cn W H (hV.below h) 9 (by omega)
  have HC1 : Hid (∀ W : World, W.cell? ⟨V, 0, none⟩ = some (.int .i64 p) → Calls Tryd.prog 24 #[.pointer (some ⟨V, 0, none⟩), .int .i64 (smt p L r (rft p r 9)), .int .i64 (1 : Int)] W fun e w' => e = .returned (.int .i64 (((smt p L r (rft p r 9)) - (1 : Int)) % (p : Int))) ∧ w' = W) := fun W h => wsub_any p V _ _ W h3 h4 h (es _ _) (show I64 1 from I64_small 1)
  have HE : Hid ((smt p L r (fun _ => tvH) - 1) % (p : Int) = (((smt p L r (rft p r 9)) - (1 : Int)) % (p : Int))) := by
    unfold Hid
    rfl
  obtain ⟨R, hR⟩ : ∃ R, R = (smt p L r (fun _ => tvH) - 1) % (p : Int) := ⟨_, rfl⟩
  rw [← hR] at HE ⊢
  clear hR
  have HB0 : Hid (Below w.heap.size w w) := Below.refl _ _
  obtain ⟨c0, c1, c2, c3, c4, c5⟩ := HX.out w HB0.out
  clear H hV hrw hnw e es hh1
  generalize (((smt p L r (rft p r 9)) - (1 : Int)) % (p : Int)) = t1 at *
  generalize (smt p L r (rft p r 9)) = s at *
  generalize r.length = lr at *
  generalize n.length = ln at *
  generalize L.length = nL at *
  go_enter Tryd.func29, Tryd.ntmps29
  go_wp2_with fail
  refine (HC0.out _ HB0.out).mono ?_
  rintro e w1 ⟨rfl, hb⟩
  have HB1 := hid (HB0.out.trans (hb.mono HB0.out.size))
  clear hb c0 c1 c2 c3 c4 c5
  obtain ⟨c0, c1, c2, c3, c4, c5⟩ := HX.out w1 HB1.out
  go_wp2_with fail
  refine (HC1.out _ c0).mono ?_
  rintro e w' ⟨rfl, hw'⟩
  have hw'' := hw'.symm
  subst hw''
  clear hw'
  go_wp2_with fail
  go_ret
  exact ⟨by have h := HE.out; subst h; rfl, HB1.out⟩

set_option maxRecDepth 100000 in
set_option maxHeartbeats 4000000 in
theorem wedge_25 (p V : Nat) (L : List InsZ) (size out : Int) (r n : List Int) (aL : Option Addr) (cL : Nat) (ar : Option Addr) (cr : Nat) (an : Option Addr) (cn : Nat) (w : World) (H : VF p L size out r n) (hV : WW p V L size out r n aL cL ar cr an cn w) :
    Calls Tryd.prog 29 #[.pointer (some ⟨V, 0, none⟩), .int .i64 25] w fun e w' => e = .returned (.int .i64 ((zat r 7 - out) % (p : Int))) ∧ Below w.heap.size w w' := by
  have h3 := H.h3
  have h4 := H.h4
  have e := em_I64 h3 h4
  have es := fun s f => (show I64 (smt p L s f) by have := smt_bd h3 L s f; unfold I64; omega)
  obtain ⟨br, orr, har, hrw⟩ := rowB_at hV.row H.hr
  subst har
  obtain ⟨bn, onn, han, hnw⟩ := rowB_at hV.nxt H.hn
  subst han
  have hh1 := H.h1
  have hl := H.hl
  have HX : Hid (∀ W, Below w.heap.size w W → (W.cell? ⟨V, 0, none⟩ = some (.int .i64 p) ∧ W.cell? ⟨V, 1, none⟩ = some (.int .i64 size) ∧ W.cell? ⟨V, 2, none⟩ = some (.slice aL L.length cL) ∧ W.cell? ⟨V, 3, none⟩ = some (.int .i64 out) ∧ W.cell? ⟨V, 4, none⟩ = some (.slice (some ⟨br, orr, none⟩) r.length cr) ∧ W.cell? ⟨V, 5, none⟩ = some (.slice (some ⟨bn, onn, none⟩) n.length cn) ∧ W.cell? ⟨br, orr + 7, none⟩ = some (.int .i64 (zat r 7)))) := fun W h => by
    have hc := (hV.below h).cells
    exact ⟨hc.1, hc.2.1, hc.2.2.1, hc.2.2.2.1, hc.2.2.2.2.1, hc.2.2.2.2.2, (h.cell (p := ⟨br, orr + 7, none⟩) (World.block_lt_of_cell? _ _ (hrw 7 (by omega)))).trans (hrw 7 (by omega))⟩
  have l7 : (7 : Int) < (r.length : Int) := by have := H.hr; omega
  have HC0 : Hid (∀ W : World, W.cell? ⟨V, 0, none⟩ = some (.int .i64 p) → Calls Tryd.prog 24 #[.pointer (some ⟨V, 0, none⟩), .int .i64 (zat r 7), .int .i64 out] W fun e w' => e = .returned (.int .i64 (((zat r 7) - out) % (p : Int))) ∧ w' = W) := fun W h => wsub_any p V _ _ W h3 h4 h (H.fr 7) H.hout
  have HB0 : Hid (Below w.heap.size w w) := Below.refl _ _
  obtain ⟨c0, c1, c2, c3, c4, c5, r7⟩ := HX.out w HB0.out
  clear H hV hrw hnw e es hh1
  generalize (((zat r 7) - out) % (p : Int)) = t1 at *
  generalize zat r 7 = x7 at *
  generalize r.length = lr at *
  generalize n.length = ln at *
  generalize L.length = nL at *
  go_enter Tryd.func29, Tryd.ntmps29
  go_wp2_with fail
  have QP : Hid (∀ nn, (w.drewN nn).cell? ⟨V, 0, none⟩ = some (.int .i64 p)) := fun nn => c0
  go_quiet (first
    | (go_at_call 24; with_reducible exact Calls.quiet_of_same (HC0.out _ (QP.out _))))
  go_wp2_with fail
  go_ret
  exact ⟨rfl, below_drewN HB0.out _⟩

end Go.Proofs.YtaibngnabhmabajDoor
