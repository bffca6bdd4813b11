/- Package source: a sign ahead of a part. Package source: need. Package source: if. -/
import Derived.Test.YthpkcageimhgaaaDoorSqAD
namespace Go.Proofs.YthpkcageimhgaaaDoor
open Go.RowKit

set_option maxRecDepth 100000 in
set_option maxHeartbeats 2000000 in
theorem minusX (R : Nat) (T : ByteArray) (f j l : Nat) (w : World) (hX : XC R T f) (hR : RdAt w R T j l) (hl : l ≤ 64) (r : Res Tr) (hr : r = (pEnter (by' T) 17 j l).bind fun _ a0 => (pPart (by' T) f a0 (l + 1)).bind fun x a1 => .ok (.node 3 [] 0 0 [x]) a1) (hro : r ≠ .out) :
    Calls Tryd.prog 80 #[.pointer (some ⟨R, 0, none⟩)] w (Rx w R T l l (VX w.heap.size) r) := by
  have HT := hid (enterX R T j l 17 w hR hl)
  have hlt := hR.lt
  have HX := hid hX
  have HR := hid hr
  have HRO := hid hro
  clear hR hr hro hX
  go_enter_defers Tryd.func80, Tryd.ntmps80
  go_wp2_with fail
  refine HT.out.mono ?_
  intro e w0 he
  cases hp : pEnter (by' T) 17 j l with
  | out => exact absurd hp pEnter_out
  | bad er at' =>
    rw [hp] at he
    obtain ⟨h1, rfl, h2⟩ := he
    have hr2 := HR.out
    rw [hp] at hr2
    subst hr2
    exact ⟨h1, rfl, h2⟩
  | ok u a0 =>
    rw [hp] at he
    obtain ⟨h1, v, rfl, rfl, h2⟩ := he
    have hl64 : l + 1 ≤ 64 := by have := (pEnter_ok hp).2.2; omega
    have hr2 := HR.out
    rw [hp] at hr2
    simp only [Res.bind] at hr2
    have HF0 := hid h1
    have HD0 := hid h2
    have HR0 := hid hr2
    clear h1 h2 hp HT HR hr2
    have hr2 := HR0.out
    have hne : pPart (by' T) f a0 (l + 1) ≠ .out := fun e => by rw [e] at hr2; exact HRO.out hr2
    have HC := hid (HX.out a0 (l + 1) w0 HD0.out hl64 hne)
    clear hr2
    go_wp2_with fail
    refine HC.out.mono ?_
    intro e w1 he
    have hr2 := HR0.out
    cases ht : pPart (by' T) f a0 (l + 1) with
    | out => exact absurd ht hne
    | bad er at' =>
      rw [ht] at he hr2
      obtain ⟨h5, rfl, j3, h6⟩ := he
      (try simp only at hr2)
      subst hr2
      refine leave_pnc h6 hl ?_
      exact ⟨(HF0.out.trans h5).set 4 _, rfl, j3, h6.level l⟩
    | ok x a1 =>
      rw [ht] at he hr2
      obtain ⟨h5, v, rfl, hv, h6⟩ := he
      obtain ⟨qx, rfl⟩ := hv.form
      (try simp only at hr2)
      have HF1 := hid (HF0.out.trans h5)
      have HD1 := hid h6
      have HR1 := hid hr2
      have HVx := hid (hv.mono HF0.out.size : PT w.heap.size w1 x _)
      clear hv HC hne
      clear h5 h6 hr2 ht HF0 HD0 HR0
      go_wp2_with fail
      have hr3 := HR1.out
      subst hr3
      have hs := HF1.out.size
      have hb5 : Below w1.heap.size w1 ((w1.alloc (.cells #[.pointer (some ⟨qx, 0, none⟩)] 38)).alloc (.cells #[.int .i64 3, .string ⟨#[]⟩, .int .i64 0, .int .i64 0, .slice (some ⟨w1.heap.size, 0, none⟩) 1 1] 84)) := ((Below.refl _ _).alloc (Nat.le_refl _) _).alloc (by simp) _
      refine leave_ret (HD1.out.below hb5) hl (results_tmp rfl _ _ _) ?_
      have hpt := PT_new (k := 3) (lo := w.heap.size) [x] [.pointer (some ⟨qx, 0, none⟩)] w1 (by simp) (by omega) (fun i t v ht hv => ?_) [] 0
      · exact ⟨(HF1.out.more hb5 hlt).set 4 _, _, rfl, hpt.fr ((Fr.refl R _).set 4 _) hlt, (HD1.out.below hb5).level l⟩
      · match i, ht, hv with
        | 0, ht, hv => simp at ht hv; subst ht hv; exact HVx.out
        | n + 1, ht, hv => simp at ht

end Go.Proofs.YthpkcageimhgaaaDoor

namespace Go.Proofs.YthpkcageimhgaaaDoor
open Go.RowKit

set_option maxRecDepth 100000 in
set_option maxHeartbeats 2000000 in
theorem needX (R : Nat) (T : ByteArray) (f j l : Nat) (w : World) (hE : EC R T f) (hS : SC R T f) (hR : RdAt w R T j l) (hl : l ≤ 64) (r : Res Tr) (hr : r = (pEnter (by' T) 6 j l).bind fun _ a0 => (pSum (by' T) f a0 (l + 1)).bind fun x a1 => (pTake (by' T) 15 a1).bind fun _ a2 => (pSum (by' T) f a2 (l + 1)).bind fun y a3 => (pTake (by' T) 13 a3).bind fun _ a4 => (pExpr (by' T) f a4 (l + 1)).bind fun z a5 => .ok (.node 10 [] 0 0 [x, y, z]) a5) (hro : r ≠ .out) :
    Calls Tryd.prog 56 #[.pointer (some ⟨R, 0, none⟩)] w (Rx w R T l l (VX w.heap.size) r) := by
  have HT := hid (enterX R T j l 6 w hR hl)
  have hlt := hR.lt
  have HE := hid hE
  have HS := hid hS
  have HR := hid hr
  have HRO := hid hro
  clear hR hr hro hE hS
  go_enter_defers Tryd.func56, Tryd.ntmps56
  go_wp2_with fail
  refine HT.out.mono ?_
  intro e w0 he
  cases hp : pEnter (by' T) 6 j l with
  | out => exact absurd hp pEnter_out
  | bad er at' =>
    rw [hp] at he
    obtain ⟨h1, rfl, h2⟩ := he
    have hr2 := HR.out
    rw [hp] at hr2
    subst hr2
    exact ⟨h1, rfl, h2⟩
  | ok u a0 =>
    rw [hp] at he
    obtain ⟨h1, v, rfl, rfl, h2⟩ := he
    have hl64 : l + 1 ≤ 64 := by have := (pEnter_ok hp).2.2; omega
    have hr2 := HR.out
    rw [hp] at hr2
    simp only [Res.bind] at hr2
    have HF0 := hid h1
    have HD0 := hid h2
    have HR0 := hid hr2
    clear h1 h2 hp HT HR hr2
    have hr2 := HR0.out
    have hne : pSum (by' T) f a0 (l + 1) ≠ .out := fun e => by rw [e] at hr2; exact HRO.out hr2
    have HC := hid (HS.out a0 (l + 1) w0 HD0.out hl64 hne)
    clear hr2
    go_wp2_with fail
    refine HC.out.mono ?_
    intro e w1 he
    have hr2 := HR0.out
    cases ht : pSum (by' T) f a0 (l + 1) with
    | out => exact absurd ht hne
    | bad er at' =>
      rw [ht] at he hr2
      obtain ⟨h5, rfl, j3, h6⟩ := he
      (try simp only at hr2)
      subst hr2
      refine leave_pnc h6 hl ?_
      exact ⟨(HF0.out.trans h5).set 4 _, rfl, j3, h6.level l⟩
    | ok x a1 =>
      rw [ht] at he hr2
      obtain ⟨h5, v, rfl, hv, h6⟩ := he
      obtain ⟨qx, rfl⟩ := hv.form
      (try simp only at hr2)
      have HF1 := hid (HF0.out.trans h5)
      have HD1 := hid h6
      have HR1 := hid hr2
      have HVx := hid (hv.mono HF0.out.size : PT w.heap.size w1 x _)
      clear hv HC hne
      clear h5 h6 hr2 ht HF0 HD0 HR0
      have HT := hid (takeX R T a1 (l + 1) 15 w1 HD1.out)
      go_wp2_with fail
      refine HT.out.mono ?_
      intro e w2 he
      have hr2 := HR1.out
      cases ht : pTake (by' T) 15 a1 with
      | out => exact absurd ht pTake_out
      | bad er at' =>
        rw [ht] at he hr2
        obtain ⟨h5, rfl, j3, h6⟩ := he
        (try simp only at hr2)
        subst hr2
        refine leave_pnc h6 hl ?_
        exact ⟨(HF1.out.trans h5).set 4 _, rfl, j3, h6.level l⟩
      | ok t2 a2 =>
        rw [ht] at he hr2
        obtain ⟨h5, v, rfl, rfl, h6⟩ := he
        (try simp only at hr2)
        have HF2 := hid (HF1.out.trans h5)
        have HD2 := hid h6
        have HR2 := hid hr2
        replace HVx := hid (HVx.out.fr h5 hlt)
        clear HT
        clear h5 h6 hr2 ht HF1 HD1 HR1
        have hr2 := HR2.out
        have hne : pSum (by' T) f a2 (l + 1) ≠ .out := fun e => by rw [e] at hr2; exact HRO.out hr2
        have HC := hid (HS.out a2 (l + 1) w2 HD2.out hl64 hne)
        clear hr2
        go_wp2_with fail
        refine HC.out.mono ?_
        intro e w3 he
        have hr2 := HR2.out
        cases ht : pSum (by' T) f a2 (l + 1) with
        | out => exact absurd ht hne
        | bad er at' =>
          rw [ht] at he hr2
          obtain ⟨h5, rfl, j3, h6⟩ := he
          (try simp only at hr2)
          subst hr2
          refine leave_pnc h6 hl ?_
          exact ⟨(HF2.out.trans h5).set 4 _, rfl, j3, h6.level l⟩
        | ok y a3 =>
          rw [ht] at he hr2
          obtain ⟨h5, v, rfl, hv, h6⟩ := he
          obtain ⟨qy, rfl⟩ := hv.form
          (try simp only at hr2)
          have HF3 := hid (HF2.out.trans h5)
          have HD3 := hid h6
          have HR3 := hid hr2
          replace HVx := hid (HVx.out.fr h5 hlt)
          have HVy := hid (hv.mono HF2.out.size : PT w.heap.size w3 y _)
          clear hv HC hne
          clear h5 h6 hr2 ht HF2 HD2 HR2
          have HT := hid (takeX R T a3 (l + 1) 13 w3 HD3.out)
          go_wp2_with fail
          refine HT.out.mono ?_
          intro e w4 he
          have hr2 := HR3.out
          cases ht : pTake (by' T) 13 a3 with
          | out => exact absurd ht pTake_out
          | bad er at' =>
            rw [ht] at he hr2
            obtain ⟨h5, rfl, j3, h6⟩ := he
            (try simp only at hr2)
            subst hr2
            refine leave_pnc h6 hl ?_
            exact ⟨(HF3.out.trans h5).set 4 _, rfl, j3, h6.level l⟩
          | ok t4 a4 =>
            rw [ht] at he hr2
            obtain ⟨h5, v, rfl, rfl, h6⟩ := he
            (try simp only at hr2)
            have HF4 := hid (HF3.out.trans h5)
            have HD4 := hid h6
            have HR4 := hid hr2
            replace HVx := hid (HVx.out.fr h5 hlt)
            replace HVy := hid (HVy.out.fr h5 hlt)
            clear HT
            clear h5 h6 hr2 ht HF3 HD3 HR3
            have hr2 := HR4.out
            have hne : pExpr (by' T) f a4 (l + 1) ≠ .out := fun e => by rw [e] at hr2; exact HRO.out hr2
            have HC := hid (HE.out a4 (l + 1) w4 HD4.out hl64 hne)
            clear hr2
            go_wp2_with fail
            refine HC.out.mono ?_
            intro e w5 he
            have hr2 := HR4.out
            cases ht : pExpr (by' T) f a4 (l + 1) with
            | out => exact absurd ht hne
            | bad er at' =>
              rw [ht] at he hr2
              obtain ⟨h5, rfl, j3, h6⟩ := he
              (try simp only at hr2)
              subst hr2
              refine leave_pnc h6 hl ?_
              exact ⟨(HF4.out.trans h5).set 4 _, rfl, j3, h6.level l⟩
            | ok z a5 =>
              rw [ht] at he hr2
              obtain ⟨h5, v, rfl, hv, h6⟩ := he
              obtain ⟨qz, rfl⟩ := hv.form
              (try simp only at hr2)
              have HF5 := hid (HF4.out.trans h5)
              have HD5 := hid h6
              have HR5 := hid hr2
              replace HVx := hid (HVx.out.fr h5 hlt)
              replace HVy := hid (HVy.out.fr h5 hlt)
              have HVz := hid (hv.mono HF4.out.size : PT w.heap.size w5 z _)
              clear hv HC hne
              clear h5 h6 hr2 ht HF4 HD4 HR4
              go_wp2_with fail
              have hr3 := HR5.out
              subst hr3
              have hs := HF5.out.size
              have hb5 : Below w5.heap.size w5 ((w5.alloc (.cells #[.pointer (some ⟨qx, 0, none⟩), .pointer (some ⟨qy, 0, none⟩), .pointer (some ⟨qz, 0, none⟩)] 38)).alloc (.cells #[.int .i64 10, .string ⟨#[]⟩, .int .i64 0, .int .i64 0, .slice (some ⟨w5.heap.size, 0, none⟩) 3 3] 84)) := ((Below.refl _ _).alloc (Nat.le_refl _) _).alloc (by simp) _
              refine leave_ret (HD5.out.below hb5) hl (results_tmp rfl _ _ _) ?_
              have hpt := PT_new (k := 10) (lo := w.heap.size) [x, y, z] [.pointer (some ⟨qx, 0, none⟩), .pointer (some ⟨qy, 0, none⟩), .pointer (some ⟨qz, 0, none⟩)] w5 (by simp) (by omega) (fun i t v ht hv => ?_) [] 0
              · exact ⟨(HF5.out.more hb5 hlt).set 4 _, _, rfl, hpt.fr ((Fr.refl R _).set 4 _) hlt, (HD5.out.below hb5).level l⟩
              · match i, ht, hv with
                | 0, ht, hv => simp at ht hv; subst ht hv; exact HVx.out
                | 1, ht, hv => simp at ht hv; subst ht hv; exact HVy.out
                | 2, ht, hv => simp at ht hv; subst ht hv; exact HVz.out
                | n + 3, ht, hv => simp at ht

end Go.Proofs.YthpkcageimhgaaaDoor

namespace Go.Proofs.YthpkcageimhgaaaDoor
open Go.RowKit

set_option maxRecDepth 100000 in
set_option maxHeartbeats 2000000 in
theorem choiceX (R : Nat) (T : ByteArray) (f j l : Nat) (w : World) (hE : EC R T f) (hR : RdAt w R T j l) (hl : l ≤ 64) (r : Res Tr) (hr : r = (pEnter (by' T) 7 j l).bind fun _ a0 => (pExpr (by' T) f a0 (l + 1)).bind fun x a1 => (pTake (by' T) 8 a1).bind fun _ a2 => (pExpr (by' T) f a2 (l + 1)).bind fun y a3 => (pTake (by' T) 9 a3).bind fun _ a4 => (pExpr (by' T) f a4 (l + 1)).bind fun z a5 => .ok (.node 11 [] 0 0 [x, y, z]) a5) (hro : r ≠ .out) :
    Calls Tryd.prog 57 #[.pointer (some ⟨R, 0, none⟩)] w (Rx w R T l l (VX w.heap.size) r) := by
  have HT := hid (enterX R T j l 7 w hR hl)
  have hlt := hR.lt
  have HE := hid hE
  have HR := hid hr
  have HRO := hid hro
  clear hR hr hro hE
  go_enter_defers Tryd.func57, Tryd.ntmps57
  go_wp2_with fail
  refine HT.out.mono ?_
  intro e w0 he
  cases hp : pEnter (by' T) 7 j l with
  | out => exact absurd hp pEnter_out
  | bad er at' =>
    rw [hp] at he
    obtain ⟨h1, rfl, h2⟩ := he
    have hr2 := HR.out
    rw [hp] at hr2
    subst hr2
    exact ⟨h1, rfl, h2⟩
  | ok u a0 =>
    rw [hp] at he
    obtain ⟨h1, v, rfl, rfl, h2⟩ := he
    have hl64 : l + 1 ≤ 64 := by have := (pEnter_ok hp).2.2; omega
    have hr2 := HR.out
    rw [hp] at hr2
    simp only [Res.bind] at hr2
    have HF0 := hid h1
    have HD0 := hid h2
    have HR0 := hid hr2
    clear h1 h2 hp HT HR hr2
    have hr2 := HR0.out
    have hne : pExpr (by' T) f a0 (l + 1) ≠ .out := fun e => by rw [e] at hr2; exact HRO.out hr2
    have HC := hid (HE.out a0 (l + 1) w0 HD0.out hl64 hne)
    clear hr2
    go_wp2_with fail
    refine HC.out.mono ?_
    intro e w1 he
    have hr2 := HR0.out
    cases ht : pExpr (by' T) f a0 (l + 1) with
    | out => exact absurd ht hne
    | bad er at' =>
      rw [ht] at he hr2
      obtain ⟨h5, rfl, j3, h6⟩ := he
      (try simp only at hr2)
      subst hr2
      refine leave_pnc h6 hl ?_
      exact ⟨(HF0.out.trans h5).set 4 _, rfl, j3, h6.level l⟩
    | ok x a1 =>
      rw [ht] at he hr2
      obtain ⟨h5, v, rfl, hv, h6⟩ := he
      obtain ⟨qx, rfl⟩ := hv.form
      (try simp only at hr2)
      have HF1 := hid (HF0.out.trans h5)
      have HD1 := hid h6
      have HR1 := hid hr2
      have HVx := hid (hv.mono HF0.out.size : PT w.heap.size w1 x _)
      clear hv HC hne
      clear h5 h6 hr2 ht HF0 HD0 HR0
      have HT := hid (takeX R T a1 (l + 1) 8 w1 HD1.out)
      go_wp2_with fail
      refine HT.out.mono ?_
      intro e w2 he
      have hr2 := HR1.out
      cases ht : pTake (by' T) 8 a1 with
      | out => exact absurd ht pTake_out
      | bad er at' =>
        rw [ht] at he hr2
        obtain ⟨h5, rfl, j3, h6⟩ := he
        (try simp only at hr2)
        subst hr2
        refine leave_pnc h6 hl ?_
        exact ⟨(HF1.out.trans h5).set 4 _, rfl, j3, h6.level l⟩
      | ok t2 a2 =>
        rw [ht] at he hr2
        obtain ⟨h5, v, rfl, rfl, h6⟩ := he
        (try simp only at hr2)
        have HF2 := hid (HF1.out.trans h5)
        have HD2 := hid h6
        have HR2 := hid hr2
        replace HVx := hid (HVx.out.fr h5 hlt)
        clear HT
        clear h5 h6 hr2 ht HF1 HD1 HR1
        have hr2 := HR2.out
        have hne : pExpr (by' T) f a2 (l + 1) ≠ .out := fun e => by rw [e] at hr2; exact HRO.out hr2
        have HC := hid (HE.out a2 (l + 1) w2 HD2.out hl64 hne)
        clear hr2
        go_wp2_with fail
        refine HC.out.mono ?_
        intro e w3 he
        have hr2 := HR2.out
        cases ht : pExpr (by' T) f a2 (l + 1) with
        | out => exact absurd ht hne
        | bad er at' =>
          rw [ht] at he hr2
          obtain ⟨h5, rfl, j3, h6⟩ := he
          (try simp only at hr2)
          subst hr2
          refine leave_pnc h6 hl ?_
          exact ⟨(HF2.out.trans h5).set 4 _, rfl, j3, h6.level l⟩
        | ok y a3 =>
          rw [ht] at he hr2
          obtain ⟨h5, v, rfl, hv, h6⟩ := he
          obtain ⟨qy, rfl⟩ := hv.form
          (try simp only at hr2)
          have HF3 := hid (HF2.out.trans h5)
          have HD3 := hid h6
          have HR3 := hid hr2
          replace HVx := hid (HVx.out.fr h5 hlt)
          have HVy := hid (hv.mono HF2.out.size : PT w.heap.size w3 y _)
          clear hv HC hne
          clear h5 h6 hr2 ht HF2 HD2 HR2
          have HT := hid (takeX R T a3 (l + 1) 9 w3 HD3.out)
          go_wp2_with fail
          refine HT.out.mono ?_
          intro e w4 he
          have hr2 := HR3.out
          cases ht : pTake (by' T) 9 a3 with
          | out => exact absurd ht pTake_out
          | bad er at' =>
            rw [ht] at he hr2
            obtain ⟨h5, rfl, j3, h6⟩ := he
            (try simp only at hr2)
            subst hr2
            refine leave_pnc h6 hl ?_
            exact ⟨(HF3.out.trans h5).set 4 _, rfl, j3, h6.level l⟩
          | ok t4 a4 =>
            rw [ht] at he hr2
            obtain ⟨h5, v, rfl, rfl, h6⟩ := he
            (try simp only at hr2)
            have HF4 := hid (HF3.out.trans h5)
            have HD4 := hid h6
            have HR4 := hid hr2
            replace HVx := hid (HVx.out.fr h5 hlt)
            replace HVy := hid (HVy.out.fr h5 hlt)
            clear HT
            clear h5 h6 hr2 ht HF3 HD3 HR3
            have hr2 := HR4.out
            have hne : pExpr (by' T) f a4 (l + 1) ≠ .out := fun e => by rw [e] at hr2; exact HRO.out hr2
            have HC := hid (HE.out a4 (l + 1) w4 HD4.out hl64 hne)
            clear hr2
            go_wp2_with fail
            refine HC.out.mono ?_
            intro e w5 he
            have hr2 := HR4.out
            cases ht : pExpr (by' T) f a4 (l + 1) with
            | out => exact absurd ht hne
            | bad er at' =>
              rw [ht] at he hr2
              obtain ⟨h5, rfl, j3, h6⟩ := he
              (try simp only at hr2)
              subst hr2
              refine leave_pnc h6 hl ?_
              exact ⟨(HF4.out.trans h5).set 4 _, rfl, j3, h6.level l⟩
            | ok z a5 =>
              rw [ht] at he hr2
              obtain ⟨h5, v, rfl, hv, h6⟩ := he
              obtain ⟨qz, rfl⟩ := hv.form
              (try simp only at hr2)
              have HF5 := hid (HF4.out.trans h5)
              have HD5 := hid h6
              have HR5 := hid hr2
              replace HVx := hid (HVx.out.fr h5 hlt)
              replace HVy := hid (HVy.out.fr h5 hlt)
              have HVz := hid (hv.mono HF4.out.size : PT w.heap.size w5 z _)
              clear hv HC hne
              clear h5 h6 hr2 ht HF4 HD4 HR4
              go_wp2_with fail
              have hr3 := HR5.out
              subst hr3
              have hs := HF5.out.size
              have hb5 : Below w5.heap.size w5 ((w5.alloc (.cells #[.pointer (some ⟨qx, 0, none⟩), .pointer (some ⟨qy, 0, none⟩), .pointer (some ⟨qz, 0, none⟩)] 38)).alloc (.cells #[.int .i64 11, .string ⟨#[]⟩, .int .i64 0, .int .i64 0, .slice (some ⟨w5.heap.size, 0, none⟩) 3 3] 84)) := ((Below.refl _ _).alloc (Nat.le_refl _) _).alloc (by simp) _
              refine leave_ret (HD5.out.below hb5) hl (results_tmp rfl _ _ _) ?_
              have hpt := PT_new (k := 11) (lo := w.heap.size) [x, y, z] [.pointer (some ⟨qx, 0, none⟩), .pointer (some ⟨qy, 0, none⟩), .pointer (some ⟨qz, 0, none⟩)] w5 (by simp) (by omega) (fun i t v ht hv => ?_) [] 0
              · exact ⟨(HF5.out.more hb5 hlt).set 4 _, _, rfl, hpt.fr ((Fr.refl R _).set 4 _) hlt, (HD5.out.below hb5).level l⟩
              · match i, ht, hv with
                | 0, ht, hv => simp at ht hv; subst ht hv; exact HVx.out
                | 1, ht, hv => simp at ht hv; subst ht hv; exact HVy.out
                | 2, ht, hv => simp at ht hv; subst ht hv; exact HVz.out
                | n + 3, ht, hv => simp at ht

end Go.Proofs.YthpkcageimhgaaaDoor
