/- Package source: if. Package source: a region that draws, in a function that defers. Programs as text, plainly: what is read lies behind. Package source: expressions in brackets, with commas between. Package source: expressions in brackets, read. Package source: sum. -/
import Derived.Test.YtmmgkdcojkmlcaaGreatDoorLFAC
import Derived.Test.YtmmgkdcojkmlcaaGreatDoorLFAA
import Derived.Maps.AppendAt
namespace Go.Proofs.YtmmgkdcojkmlcaaGreatDoor
open Go.RowKit

set_option maxRecDepth 100000 in
set_option maxHeartbeats 2000000 in
theorem choiceX (R : Nat) (T : ByteArray) (f j l : Nat) (w : World) (hE : EC R T f) (hR : RdAt w R T j l) (hl : l ≤ 64) (r : Res Tr) (hr : r = (pEnter (by' T) 7 j l).bind fun _ a0 => (pExpr (by' T) f a0 (l + 1)).bind fun x a1 => (pTake (by' T) 8 a1).bind fun _ a2 => (pExpr (by' T) f a2 (l + 1)).bind fun y a3 => (pTake (by' T) 9 a3).bind fun _ a4 => (pExpr (by' T) f a4 (l + 1)).bind fun z a5 => .ok (.node 11 [] 0 0 [x, y, z]) a5) (hro : r ≠ .out) :
    Calls Tryz.prog 102 #[.pointer (some ⟨R, 0, none⟩)] w (Rx w R T l l (VX w.heap.size) r) := by
  have HT := hid (enterX R T j l 7 w hR hl)
  have hlt := hR.lt
  have HE := hid hE
  have HR := hid hr
  have HRO := hid hro
  clear hR hr hro hE
  go_enter_defers Tryz.func102, Tryz.ntmps102
  go_wp2_with fail
  refine HT.out.mono ?_
  intro e w0 he
  cases hp : pEnter (by' T) 7 j l with
  | out => exact absurd hp pEnter_out
  | bad er at' =>
    rw [hp] at he
    obtain ⟨h1, rfl, h2⟩ := he
    have hr2 := HR.out
    rw [hp] at hr2
    subst hr2
    exact ⟨h1, rfl, h2⟩
  | ok u a0 =>
    rw [hp] at he
    obtain ⟨h1, v, rfl, rfl, h2⟩ := he
    have hl64 : l + 1 ≤ 64 := by have := (pEnter_ok hp).2.2; omega
    have hr2 := HR.out
    rw [hp] at hr2
    simp only [Res.bind] at hr2
    have HF0 := hid h1
    have HD0 := hid h2
    have HR0 := hid hr2
    clear h1 h2 hp HT HR hr2
    have hr2 := HR0.out
    have hne : pExpr (by' T) f a0 (l + 1) ≠ .out := fun e => by rw [e] at hr2; exact HRO.out hr2
    have HC := hid (HE.out a0 (l + 1) w0 HD0.out hl64 hne)
    clear hr2
    go_wp2_with fail
    refine HC.out.mono ?_
    intro e w1 he
    have hr2 := HR0.out
    cases ht : pExpr (by' T) f a0 (l + 1) with
    | out => exact absurd ht hne
    | bad er at' =>
      rw [ht] at he hr2
      obtain ⟨h5, rfl, j3, h6⟩ := he
      (try simp only at hr2)
      subst hr2
      refine leave_pnc h6 hl ?_
      exact ⟨(HF0.out.trans h5).set 4 _, rfl, j3, h6.level l⟩
    | ok x a1 =>
      rw [ht] at he hr2
      obtain ⟨h5, v, rfl, hv, h6⟩ := he
      obtain ⟨qx, rfl⟩ := hv.form
      (try simp only at hr2)
      have HF1 := hid (HF0.out.trans h5)
      have HD1 := hid h6
      have HR1 := hid hr2
      have HVx := hid (hv.mono HF0.out.size : PT w.heap.size w1 x _)
      clear hv HC hne
      clear h5 h6 hr2 ht HF0 HD0 HR0
      have HT := hid (takeX R T a1 (l + 1) 8 w1 HD1.out)
      go_wp2_with fail
      refine HT.out.mono ?_
      intro e w2 he
      have hr2 := HR1.out
      cases ht : pTake (by' T) 8 a1 with
      | out => exact absurd ht pTake_out
      | bad er at' =>
        rw [ht] at he hr2
        obtain ⟨h5, rfl, j3, h6⟩ := he
        (try simp only at hr2)
        subst hr2
        refine leave_pnc h6 hl ?_
        exact ⟨(HF1.out.trans h5).set 4 _, rfl, j3, h6.level l⟩
      | ok t2 a2 =>
        rw [ht] at he hr2
        obtain ⟨h5, v, rfl, rfl, h6⟩ := he
        (try simp only at hr2)
        have HF2 := hid (HF1.out.trans h5)
        have HD2 := hid h6
        have HR2 := hid hr2
        replace HVx := hid (HVx.out.fr h5 hlt)
        clear HT
        clear h5 h6 hr2 ht HF1 HD1 HR1
        have hr2 := HR2.out
        have hne : pExpr (by' T) f a2 (l + 1) ≠ .out := fun e => by rw [e] at hr2; exact HRO.out hr2
        have HC := hid (HE.out a2 (l + 1) w2 HD2.out hl64 hne)
        clear hr2
        go_wp2_with fail
        refine HC.out.mono ?_
        intro e w3 he
        have hr2 := HR2.out
        cases ht : pExpr (by' T) f a2 (l + 1) with
        | out => exact absurd ht hne
        | bad er at' =>
          rw [ht] at he hr2
          obtain ⟨h5, rfl, j3, h6⟩ := he
          (try simp only at hr2)
          subst hr2
          refine leave_pnc h6 hl ?_
          exact ⟨(HF2.out.trans h5).set 4 _, rfl, j3, h6.level l⟩
        | ok y a3 =>
          rw [ht] at he hr2
          obtain ⟨h5, v, rfl, hv, h6⟩ := he
          obtain ⟨qy, rfl⟩ := hv.form
          (try simp only at hr2)
          have HF3 := hid (HF2.out.trans h5)
          have HD3 := hid h6
          have HR3 := hid hr2
          replace HVx := hid (HVx.out.fr h5 hlt)
          have HVy := hid (hv.mono HF2.out.size : PT w.heap.size w3 y _)
          clear hv HC hne
          clear h5 h6 hr2 ht HF2 HD2 HR2
          have HT := hid (takeX R T a3 (l + 1) 9 w3 HD3.out)
          go_wp2_with fail
          refine HT.out.mono ?_
          intro e w4 he
          have hr2 := HR3.out
          cases ht : pTake (by' T) 9 a3 with
          | out => exact absurd ht pTake_out
          | bad er at' =>
            rw [ht] at he hr2
            obtain ⟨h5, rfl, j3, h6⟩ := he
            (try simp only at hr2)
            subst hr2
            refine leave_pnc h6 hl ?_
            exact ⟨(HF3.out.trans h5).set 4 _, rfl, j3, h6.level l⟩
          | ok t4 a4 =>
            rw [ht] at he hr2
            obtain ⟨h5, v, rfl, rfl, h6⟩ := he
            (try simp only at hr2)
            have HF4 := hid (HF3.out.trans h5)
            have HD4 := hid h6
            have HR4 := hid hr2
            replace HVx := hid (HVx.out.fr h5 hlt)
            replace HVy := hid (HVy.out.fr h5 hlt)
            clear HT
            clear h5 h6 hr2 ht HF3 HD3 HR3
            have hr2 := HR4.out
            have hne : pExpr (by' T) f a4 (l + 1) ≠ .out := fun e => by rw [e] at hr2; exact HRO.out hr2
            have HC := hid (HE.out a4 (l + 1) w4 HD4.out hl64 hne)
            clear hr2
            go_wp2_with fail
            refine HC.out.mono ?_
            intro e w5 he
            have hr2 := HR4.out
            cases ht : pExpr (by' T) f a4 (l + 1) with
            | out => exact absurd ht hne
            | bad er at' =>
              rw [ht] at he hr2
              obtain ⟨h5, rfl, j3, h6⟩ := he
              (try simp only at hr2)
              subst hr2
              refine leave_pnc h6 hl ?_
              exact ⟨(HF4.out.trans h5).set 4 _, rfl, j3, h6.level l⟩
            | ok z a5 =>
              rw [ht] at he hr2
              obtain ⟨h5, v, rfl, hv, h6⟩ := he
              obtain ⟨qz, rfl⟩ := hv.form
              (try simp only at hr2)
              have HF5 := hid (HF4.out.trans h5)
              have HD5 := hid h6
              have HR5 := hid hr2
              replace HVx := hid (HVx.out.fr h5 hlt)
              replace HVy := hid (HVy.out.fr h5 hlt)
              have HVz := hid (hv.mono HF4.out.size : PT w.heap.size w5 z _)
              clear hv HC hne
              clear h5 h6 hr2 ht HF4 HD4 HR4
              go_wp2_with fail
              have hr3 := HR5.out
              subst hr3
              have hs := HF5.out.size
              have hb5 : Below w5.heap.size w5 ((w5.alloc (.cells #[.pointer (some ⟨qx, 0, none⟩), .pointer (some ⟨qy, 0, none⟩), .pointer (some ⟨qz, 0, none⟩)] 70)).alloc (.cells #[.int .i64 11, .string ⟨#[]⟩, .int .i64 0, .int .i64 0, .slice (some ⟨w5.heap.size, 0, none⟩) 3 3] 190)) := ((Below.refl _ _).alloc (Nat.le_refl _) _).alloc (by simp) _
              refine leave_ret (HD5.out.below hb5) hl (results_tmp rfl _ _ _) ?_
              have hpt := PT_new (k := 11) (lo := w.heap.size) [x, y, z] [.pointer (some ⟨qx, 0, none⟩), .pointer (some ⟨qy, 0, none⟩), .pointer (some ⟨qz, 0, none⟩)] w5 (by simp) (by omega) (fun i t v ht hv => ?_) [] 0
              · exact ⟨(HF5.out.more hb5 hlt).set 4 _, _, rfl, hpt.fr ((Fr.refl R _).set 4 _) hlt, (HD5.out.below hb5).level l⟩
              · match i, ht, hv with
                | 0, ht, hv => simp at ht hv; subst ht hv; exact HVx.out
                | 1, ht, hv => simp at ht hv; subst ht hv; exact HVy.out
                | 2, ht, hv => simp at ht hv; subst ht hv; exact HVz.out
                | n + 3, ht, hv => simp at ht

end Go.Proofs.YtmmgkdcojkmlcaaGreatDoor

namespace Go.Proofs.YtmmgkdcojkmlcaaGreatDoor
open Go.RowKit

section
variable {P : Program} {ops : Array Oper} {Q : Exit → Act → World → Prop} {md : Region.Mode} {S : World → Prop}
theorem drop_atS {i : Nat} {oi : Oper} {rest : List Oper} (hl : ops.toList.drop i = oi :: rest) : ops[i]? = some oi := by
  have := congrArg (fun l => l[0]?) hl
  simpa [List.getElem?_drop] using this
theorem wpAnyH_takeS {i : Nat} {oi : Oper} {rest : List Oper} {v : Value} {fuel : Nat} {listed : Array Bool} {a : Act} {w : World} (hl : ops.toList.drop i = oi :: rest)
    (hs : Region.noSelect ops = true) (hf : Region.free md ops listed i = true) (hr : (Region.ready md ops listed).contains i = true)
    (hQ : ∀ c a w, Q (.panic c) (a.put oi.dst v) w → Q (.panic c) a w) (hw : Region.wanted oi (yielded ops a.tmps) = true) (hy : ∀ w, S w → (execOp a.eval oi).run P w = .ok (.value v) w) (hS : S w)
    (h : wpAnyH P md ops Q S fuel (listed.setIfInBounds i true) (a.put oi.dst v) w) : wpAnyH P md ops Q S (fuel + 1) listed a w :=
  wpAnyH_take (drop_atS hl) hs hf hr hQ (Or.inl ⟨hw, hy⟩) hS h
theorem AllReadyH.consS {fuel : Nat} {listed : Array Bool} {a : Act} {w : World} {i : Nat} {o : Oper} {rest : List Oper} {rs : List Nat} (hl : ops.toList.drop i = o :: rest)
    (h : ∀ K' : Act → World → Prop, Shut (∀ a w, S w → (S w → wpAnyH P md ops Q S fuel (listed.setIfInBounds i true) a w) → K' a w) → if Region.wanted o (yielded ops a.tmps) = true then Oper.wp P o a w K' Q else K' (a.put o.dst undef) w)
    (hs : AllReadyH P md ops Q S fuel listed a w rs) : AllReadyH P md ops Q S fuel listed a w (i :: rs) := AllReadyH.cons (drop_atS hl) h hs
end
theorem leaves_sameS {P : Program} {fn : Func} {t1 t2 : Array Value} {R : Ending → World → Prop} (hr : results fn t1 = results fn t2) : ∀ (ds : List Deferred) (u : FrameMode) (w : World), Leaves P fn t1 R ds u w → Leaves P fn t2 R ds u w
  | [], .returning, w, h => by
    obtain ⟨v, h1, h2⟩ := h
    exact ⟨v, by rw [← hr]; exact h1, h2⟩
  | [], .panicking _, _, h => h
  | [], .run, _, h => h
  | d :: ds, u, w, h => by
    obtain ⟨h1, fv, cap, f, args, h2, h3, h4⟩ := h
    refine ⟨h1, fv, cap, f, args, h2, h3, h4.mono ?_⟩
    rintro e u' w' he
    cases e with
    | returned v => exact leaves_sameS hr ds _ _ he
    | panicked c => exact leaves_sameS hr ds _ _ he
    | outgrown => exact he
theorem panic_putS {fn : Func} {k : Nat} (hf : fn.results = #[.tmp k]) {R : Ending → World → Prop} (d : Nat) (v : Value) (hd : d ≠ k) (c : List PanicEntry) (a : Act) (w : World) (h : bodyPostD Tryz.prog fn R (.panic c) (a.put (some d) v) w) : bodyPostD Tryz.prog fn R (.panic c) a w :=
  leaves_sameS (t1 := a.tmps.setIfInBounds d v) (by
    have e : (a.tmps.setIfInBounds d v)[k]? = a.tmps[k]? := Array.getElem?_setIfInBounds_ne hd
    simp [results, hf, e]) _ _ _ h

set_option maxRecDepth 100000 in
set_option maxHeartbeats 2000000 in
theorem letX (R : Nat) (T : ByteArray) (f j l : Nat) (w : World) (hE : EC R T f) (hR : RdAt w R T j l) (hl : l ≤ 64) (r : Res Tr) (hr : r = (pEnter (by' T) 5 j l).bind fun _ a0 => (pName (by' T) a0).bind fun nm a1 => (pTake (by' T) 14 a1).bind fun _ a2 => (pExpr (by' T) f a2 (l + 1)).bind fun x a3 => (pTake (by' T) 13 a3).bind fun _ a4 => (pExpr (by' T) f a4 (l + 1)).bind fun y a5 => .ok (.node 9 nm.1 nm.2 0 [x, y]) a5) (hro : r ≠ .out) :
    Calls Tryz.prog 100 #[.pointer (some ⟨R, 0, none⟩)] w (Rx w R T l l (VX w.heap.size) r) := by
  have HT := hid (enterX R T j l 5 w hR hl)
  have hlt := hR.lt
  have HE := hid hE
  have HR := hid hr
  have HRO := hid hro
  clear hR hr hro hE
  go_enter_defers Tryz.func100, Tryz.ntmps100
  go_wp2_with fail
  refine HT.out.mono ?_
  intro e w0 he
  cases hp : pEnter (by' T) 5 j l with
  | out => exact absurd hp pEnter_out
  | bad er at' =>
    rw [hp] at he
    obtain ⟨h1, rfl, h2⟩ := he
    have hr2 := HR.out
    rw [hp] at hr2
    subst hr2
    exact ⟨h1, rfl, h2⟩
  | ok u a0 =>
    rw [hp] at he
    obtain ⟨h1, v, rfl, rfl, h2⟩ := he
    have hl64 : l + 1 ≤ 64 := by have := (pEnter_ok hp).2.2; omega
    have hr2 := HR.out
    rw [hp] at hr2
    simp only [Res.bind] at hr2
    have HF0 := hid h1
    have HD0 := hid h2
    have HR0 := hid hr2
    clear h1 h2 hp HT HR hr2
    have HT := hid (nameX R T a0 (l + 1) w0 HD0.out)
    go_wp2_with fail
    refine HT.out.mono ?_
    intro e w1 he
    have hr2 := HR0.out
    cases ht : pName (by' T) a0 with
    | out => exact absurd ht pName_out
    | bad er at' =>
      rw [ht] at he hr2
      obtain ⟨h5, rfl, j3, h6⟩ := he
      (try simp only at hr2)
      subst hr2
      refine leave_pnc h6 hl ?_
      exact ⟨(HF0.out.trans h5).set 4 _, rfl, j3, h6.level l⟩
    | ok nm a1 =>
      rw [ht] at he hr2
      obtain ⟨h5, v, rfl, rfl, h6⟩ := he
      (try simp only at hr2)
      have hbN : Below w1.heap.size w1 (w1.alloc (.cells #[.string (bs nm.1), .int .i64 (nm.2 : Int)] 68)) := (Below.refl _ _).alloc (Nat.le_refl _) _
      have HF1 := hid ((HF0.out.trans h5).more hbN hlt)
      have HD1 := hid (h6.below hbN)
      have HR1 := hid hr2
      have hn1 : (w1.alloc (.cells #[.string (bs nm.1), .int .i64 (nm.2 : Int)] 68)).heap[w1.heap.size]? = some (.cells #[.string (bs nm.1), .int .i64 (nm.2 : Int)] 68 (0, 0)) := heap_alloc_new w1 _
      obtain ⟨N, hN⟩ : ∃ N, N = w1.heap.size := ⟨_, rfl⟩
      have hNR : N ≠ R := by have := h6.lt; omega
      obtain ⟨W1, hW1⟩ : ∃ W1, W1 = w1.alloc (.cells #[.string (bs nm.1), .int .i64 (nm.2 : Int)] 68) := ⟨_, rfl⟩
      rw [← hW1] at HF1 HD1 hn1
      rw [← hN] at hn1
      have HN1 := hid hn1
      have HNR := hid hNR
      obtain ⟨s, hs⟩ : ∃ s, s = bs nm.1 := ⟨_, rfl⟩
      have HS := hid hs
      rw [← hs] at hW1 HN1
      clear h5 h6 hr2 ht HF0 HD0 HR0 HT hbN hn1 hNR
      have HT := hid (takeX R T a1 (l + 1) 14 W1 HD1.out)
      unfold namv
      rw [← hs]
      clear hs
      replace hW1 := hW1.symm
      replace hN := hN.symm
      go_wp2_with fail
      clear hW1 hN
      refine HT.out.mono ?_
      intro e w2 he
      have hr2 := HR1.out
      cases ht : pTake (by' T) 14 a1 with
      | out => exact absurd ht pTake_out
      | bad er at' =>
        rw [ht] at he hr2
        obtain ⟨h5, rfl, j3, h6⟩ := he
        (try simp only at hr2)
        subst hr2
        refine leave_pnc h6 hl ?_
        exact ⟨(HF1.out.trans h5).set 4 _, rfl, j3, h6.level l⟩
      | ok t2 a2 =>
        rw [ht] at he hr2
        obtain ⟨h5, v, rfl, rfl, h6⟩ := he
        (try simp only at hr2)
        have HF2 := hid (HF1.out.trans h5)
        have HD2 := hid h6
        have HR2 := hid hr2
        replace HN1 := hid ((h5.2 N (Array.getElem?_eq_some_iff.1 HN1.out).1 HNR.out).trans HN1.out)
        clear HT
        clear h5 h6 hr2 ht HF1 HD1 HR1
        have hr2 := HR2.out
        have hne : pExpr (by' T) f a2 (l + 1) ≠ .out := fun e => by rw [e] at hr2; exact HRO.out hr2
        have HC := hid (HE.out a2 (l + 1) w2 HD2.out hl64 hne)
        clear hr2
        go_wp2_with fail
        refine HC.out.mono ?_
        intro e w3 he
        have hr2 := HR2.out
        cases ht : pExpr (by' T) f a2 (l + 1) with
        | out => exact absurd ht hne
        | bad er at' =>
          rw [ht] at he hr2
          obtain ⟨h5, rfl, j3, h6⟩ := he
          (try simp only at hr2)
          subst hr2
          refine leave_pnc h6 hl ?_
          exact ⟨(HF2.out.trans h5).set 4 _, rfl, j3, h6.level l⟩
        | ok x a3 =>
          rw [ht] at he hr2
          obtain ⟨h5, v, rfl, hv, h6⟩ := he
          obtain ⟨qx, rfl⟩ := hv.form
          (try simp only at hr2)
          have HF3 := hid (HF2.out.trans h5)
          have HD3 := hid h6
          have HR3 := hid hr2
          have HVx := hid (hv.mono HF2.out.size : PT w.heap.size w3 x _)
          replace HN1 := hid ((h5.2 N (Array.getElem?_eq_some_iff.1 HN1.out).1 HNR.out).trans HN1.out)
          clear hv HC hne
          clear h5 h6 hr2 ht HF2 HD2 HR2
          have HT := hid (takeX R T a3 (l + 1) 13 w3 HD3.out)
          go_wp2_with fail
          refine HT.out.mono ?_
          intro e w4 he
          have hr2 := HR3.out
          cases ht : pTake (by' T) 13 a3 with
          | out => exact absurd ht pTake_out
          | bad er at' =>
            rw [ht] at he hr2
            obtain ⟨h5, rfl, j3, h6⟩ := he
            (try simp only at hr2)
            subst hr2
            refine leave_pnc h6 hl ?_
            exact ⟨(HF3.out.trans h5).set 4 _, rfl, j3, h6.level l⟩
          | ok t4 a4 =>
            rw [ht] at he hr2
            obtain ⟨h5, v, rfl, rfl, h6⟩ := he
            (try simp only at hr2)
            have HF4 := hid (HF3.out.trans h5)
            have HD4 := hid h6
            have HR4 := hid hr2
            replace HVx := hid (HVx.out.fr h5 hlt)
            replace HN1 := hid ((h5.2 N (Array.getElem?_eq_some_iff.1 HN1.out).1 HNR.out).trans HN1.out)
            clear HT
            clear h5 h6 hr2 ht HF3 HD3 HR3
            have hr2 := HR4.out
            have hne : pExpr (by' T) f a4 (l + 1) ≠ .out := fun e => by rw [e] at hr2; exact HRO.out hr2
            have HC := hid (HE.out a4 (l + 1) w4.drew HD4.out.drew hl64 hne)
            have hc0 : w4.drew.cell? ⟨N, 0, none⟩ = some (.string s) ∧ w4.drew.cell? ⟨N, 1, none⟩ = some (.int .i64 (nm.2 : Int)) := ⟨by show w4.cell? _ = _; simp [World.cell?, HN1.out], by show w4.cell? _ = _; simp [World.cell?, HN1.out]⟩
            clear hr2
            go_wp2_with fail
            refine wp_region_held_drew (S := (fun W => W.cell? ⟨N, 0, none⟩ = some (.string s) ∧ W.cell? ⟨N, 1, none⟩ = some (.int .i64 (nm.2 : Int)))) (by kernel_rfl) hc0 (fun hHeld => ?_)
            refine wpAnyH_takeS (i := 0) (v := .agg #[.string s, .int .i64 (nm.2 : Int)]) rfl (by kernel_rfl) (by kernel_rfl) (by kernel_rfl) (fun c a w h => panic_putS rfl 16 _ (by decide) c a w h) (by rfl) (fun W hC => by (obtain ⟨k0, k1⟩ := hC); go_simp) hHeld ?_
            simp only [Act.put, List.setIfInBounds_toArray, List.set_cons_zero, List.set_cons_succ]
            refine wpAnyH_takeS (i := 1) (v := .pointer (some ⟨qx, 0, none⟩)) rfl (by kernel_rfl) (by kernel_rfl) (by kernel_rfl) (fun c a w h => panic_putS rfl 17 _ (by decide) c a w h) (by rfl) (fun W hC => by go_simp) hHeld ?_
            simp only [Act.put, List.setIfInBounds_toArray, List.set_cons_zero, List.set_cons_succ]
            refine wpAnyH_takeS (i := 2) (v := .pointer (some ⟨R, 0, none⟩)) rfl (by kernel_rfl) (by kernel_rfl) (by kernel_rfl) (fun c a w h => panic_putS rfl 18 _ (by decide) c a w h) (by rfl) (fun W hC => by go_simp) hHeld ?_
            simp only [Act.put, List.setIfInBounds_toArray, List.set_cons_zero, List.set_cons_succ]
            refine wpAnyH_ready (rs := [3]) (by kernel_rfl) (by simp) ?_
            refine AllReadyH.consS rfl (fun K hK => ?_) AllReadyH.nil
            go_simp
            refine HC.out.mono ?_
            intro e w5 he
            have hr2 := HR4.out
            cases ht : pExpr (by' T) f a4 (l + 1) with
            | out => exact absurd ht hne
            | bad er at' =>
              rw [ht] at he hr2
              obtain ⟨h5, rfl, j3, h6⟩ := he
              (try simp only at hr2)
              subst hr2
              refine leave_pnc h6 hl ?_
              exact ⟨((HF4.out.drew).trans h5).set 4 _, rfl, j3, h6.level l⟩
            | ok y a5 =>
              rw [ht] at he hr2
              obtain ⟨h5, v, rfl, hv, h6⟩ := he
              obtain ⟨qy, rfl⟩ := hv.form
              (try simp only at hr2)
              have HF5 := hid (HF4.out.drew.trans h5)
              have HD5 := hid h6
              have HR5 := hid hr2
              have HVy := hid (hv.mono HF4.out.size : PT w.heap.size w5 y _)
              replace HVx := hid ((show PT w.heap.size w4.drew x _ from HVx.out.below ((Below.refl _ _).drew)).fr h5 hlt)
              have hn5 : w5.heap[N]? = some (.cells #[.string s, .int .i64 (nm.2 : Int)] 68 (0, 0)) := (h5.2 N (Array.getElem?_eq_some_iff.1 HN1.out).1 HNR.out).trans HN1.out
              have hc5 : w5.cell? ⟨N, 0, none⟩ = some (.string s) ∧ w5.cell? ⟨N, 1, none⟩ = some (.int .i64 (nm.2 : Int)) := ⟨by simp [World.cell?, hn5], by simp [World.cell?, hn5]⟩
              have hlN : N < w5.heap.size := (Array.getElem?_eq_some_iff.1 hn5).1
              have HKB : Hid (∀ W, Below w5.heap.size w5 W → W.cell? ⟨N, 0, none⟩ = some (.string s) ∧ W.cell? ⟨N, 1, none⟩ = some (.int .i64 (nm.2 : Int))) := fun W h => ⟨(h.cell (p := ⟨N, 0, none⟩) hlN).trans hc5.1, (h.cell (p := ⟨N, 1, none⟩) hlN).trans hc5.2⟩
              clear hv hr2 ht h5 h6
              refine hK.out _ _ hc5 (fun hHeld => ?_)
              clear hK K hHeld
              have hHeld := hc5
              refine wpAnyH_ready (rs := [4]) (by kernel_rfl) (by simp) ?_
              refine AllReadyH.consS rfl (fun K hK => ?_) AllReadyH.nil
              go_simp
              refine hK.out _ _ (HKB.out _ ((Below.refl _ _).alloc (Nat.le_refl _) _)) (fun hHeld => ?_)
              clear hK K hHeld
              refine wpAnyH_ready (rs := [5]) (by kernel_rfl) (by simp) ?_
              refine AllReadyH.consS rfl (fun K hK => ?_) AllReadyH.nil
              go_simp
              refine hK.out _ _ (HKB.out _ ((Below.refl _ _).alloc (Nat.le_refl _) _)) (fun hHeld => ?_)
              clear hK K hHeld
              refine wpAnyH_ready (rs := [6]) (by kernel_rfl) (by simp) ?_
              refine AllReadyH.consS rfl (fun K hK => ?_) AllReadyH.nil
              go_simp
              have hb5 : Below w5.heap.size w5 ((w5.alloc (.cells #[.pointer (some ⟨qx, 0, none⟩), .pointer (some ⟨qy, 0, none⟩)] 70)).alloc (.cells #[.int .i64 9, .string s, .int .i64 (nm.2 : Int), .int .i64 0, .slice (some ⟨w5.heap.size, 0, none⟩) 2 2] 190)) := ((Below.refl _ _).alloc (Nat.le_refl _) _).alloc (by simp) _
              refine hK.out _ _ (HKB.out _ hb5) (fun hHeld => ?_)
              clear hK K hHeld
              refine wpAnyH_ready (rs := [7]) (by kernel_rfl) (by simp) ?_
              refine AllReadyH.consS rfl (fun K hK => ?_) AllReadyH.nil
              go_simp
              refine hK.out _ _ (HKB.out _ hb5) (fun hHeld => ?_)
              clear hK K hHeld
              refine wpAnyH_done (by kernel_rfl) ?_ _
              have HB5 := hid hb5
              have hpt := PT_new (k := 9) (lo := w.heap.size) [x, y] [.pointer (some ⟨qx, 0, none⟩), .pointer (some ⟨qy, 0, none⟩)] w5 (by simp) (by have := HF5.out.size; omega) (fun i t v ht hv => by
                match i, ht, hv with
                | 0, ht, hv => simp at ht hv; subst ht hv; exact HVx.out
                | 1, ht, hv => simp at ht hv; subst ht hv; exact HVy.out
                | n + 2, ht, hv => simp at ht) nm.1 nm.2
              rw [← HS.out] at hpt
              have HPT := hid hpt
              clear hb5 hpt hc5 hHeld
              obtain ⟨W6, hW6⟩ : ∃ W6, W6 = (w5.alloc (.cells #[.pointer (some ⟨qx, 0, none⟩), .pointer (some ⟨qy, 0, none⟩)] 70)).alloc (.cells #[.int .i64 9, .string s, .int .i64 (nm.2 : Int), .int .i64 0, .slice (some ⟨w5.heap.size, 0, none⟩) 2 2] 190) := ⟨_, rfl⟩
              have HPT2 : Hid (PT w.heap.size W6 (.node 9 nm.1 nm.2 0 [x, y]) (.pointer (some ⟨w5.heap.size + 1, 0, none⟩))) := by unfold Hid; rw [hW6]; exact HPT.out
              rw [← hW6] at HB5 ⊢
              clear hW6 HPT
              go_wp2_with fail
              have hr3 := HR5.out
              subst hr3
              refine leave_ret (HD5.out.below HB5.out) hl (results_tmp rfl _ _ _) ?_
              exact ⟨(HF5.out.more HB5.out hlt).set 4 _, _, rfl, HPT2.out.fr ((Fr.refl R _).set 4 _) hlt, (HD5.out.below HB5.out).level l⟩

end Go.Proofs.YtmmgkdcojkmlcaaGreatDoor

namespace Go.Proofs.YtmmgkdcojkmlcaaGreatDoor

/-- behind a place, if it is a result -/
def Res.Fx {α : Type} (N a : Nat) : Res α → Prop
  | .ok _ j => a ≤ j ∧ j ≤ N
  | .bad _ _ => True
  | .out => True
theorem Res.Fw.x {α : Type} {N a : Nat} {r : Res α} (h : r.Fw N a) : r.Fx N a := by
  cases r with
  | ok x j => exact h
  | bad e at' => trivial
  | out => trivial
theorem Res.Fx.bind {α β : Type} {N a b : Nat} {r : Res α} {f : α → Nat → Res β} (h : r.Fx N a) (hf : ∀ x j, r = .ok x j → a ≤ j → j ≤ N → (f x j).Fx N b) : (r.bind f).Fx N b := by
  cases r with
  | ok x j => exact hf x j rfl h.1 h.2
  | bad e at' => trivial
  | out => trivial
theorem Res.Fx.mono {α : Type} {N a b : Nat} {r : Res α} (h : r.Fx N a) (hb : b ≤ a) : r.Fx N b := by
  cases r with
  | ok x j => exact ⟨Nat.le_trans hb h.1, h.2⟩
  | bad e at' => trivial
  | out => trivial
theorem pTake_fx (L : List UInt8) (k a : Nat) (h : a ≤ L.length) (hk : k ≠ 1) : (pTake L k a).Fx L.length (a + 1) := (pTake_fw L k a h hk).x
theorem pEnter_fx (L : List UInt8) (k a l : Nat) (h : a ≤ L.length) (hk : k ≠ 1) : (pEnter L k a l).Fx L.length (a + 1) := (pEnter_fw L k a l h hk).x
theorem pName_fx (L : List UInt8) (a : Nat) (h : a ≤ L.length) : (pName L a).Fx L.length (a + 1) := (pName_fw L a h).x
theorem pNum_fx (L : List UInt8) (a : Nat) (h : a ≤ L.length) : (pNum L a).Fx L.length (a + 1) := (pNum_fw L a h).x

/-- what is read lies behind -/
theorem p_fx (L : List UInt8) : ∀ (f : Nat),
    (∀ a l, a ≤ L.length  → (pExpr L f a l).Fx L.length (a + 1)) ∧
    (∀ a l, a ≤ L.length  → (pSum L f a l).Fx L.length (a + 1)) ∧
    (∀ x a l, a ≤ L.length  → (pSumL L f x a l).Fx L.length a) ∧
    (∀ a l, a ≤ L.length  → (pProd L f a l).Fx L.length (a + 1)) ∧
    (∀ x a l, a ≤ L.length  → (pProdL L f x a l).Fx L.length a) ∧
    (∀ a l, a ≤ L.length  → (pPart L f a l).Fx L.length (a + 1)) ∧
    (∀ a l, a ≤ L.length  → (pList L f a l).Fx L.length (a + 1)) ∧
    (∀ xs a l, a ≤ L.length  → (pArgs L f xs a l).Fx L.length a)
  | 0 => by
    refine ⟨?_, ?_, ?_, ?_, ?_, ?_, ?_, ?_⟩
    all_goals (intros; first | (rw [pExpr]; trivial) | (rw [pSum]; trivial) | (rw [pSumL]; trivial) | (rw [pProd]; trivial) | (rw [pProdL]; trivial) | (rw [pPart]; trivial) | (rw [pList]; trivial) | (rw [pArgs]; trivial))
  | f + 1 => by
    obtain ⟨iE, iS, iSL, iP, iPL, iX, iLs, iA⟩ := p_fx L f
    refine ⟨?_, ?_, ?_, ?_, ?_, ?_, ?_, ?_⟩
    · intro a l ha
      rw [pExpr]
      split
      · refine (pEnter_fx L 5 a l ha (by decide)).bind fun _ a1 _ h1 m1 => ?_
        refine (pName_fx L a1 m1).bind fun nm a2 _ h2 m2 => ?_
        refine (pTake_fx L 14 a2 m2 (by decide)).bind fun _ a3 _ h3 m3 => ?_
        refine (iE a3 _ m3).bind fun _ a4 _ h4 m4 => ?_
        refine (pTake_fx L 13 a4 m4 (by decide)).bind fun _ a5 _ h5 m5 => ?_
        refine (iE a5 _ m5).bind fun _ a6 _ h6 m6 => ?_
        exact ⟨by omega, m6⟩
      · split
        · refine (pEnter_fx L 6 a l ha (by decide)).bind fun _ a1 _ h1 m1 => ?_
          refine (iS a1 _ m1).bind fun _ a2 _ h2 m2 => ?_
          refine (pTake_fx L 15 a2 m2 (by decide)).bind fun _ a3 _ h3 m3 => ?_
          refine (iS a3 _ m3).bind fun _ a4 _ h4 m4 => ?_
          refine (pTake_fx L 13 a4 m4 (by decide)).bind fun _ a5 _ h5 m5 => ?_
          refine (iE a5 _ m5).bind fun _ a6 _ h6 m6 => ?_
          exact ⟨by omega, m6⟩
        · split
          · refine (pEnter_fx L 7 a l ha (by decide)).bind fun _ a1 _ h1 m1 => ?_
            refine (iE a1 _ m1).bind fun _ a2 _ h2 m2 => ?_
            refine (pTake_fx L 8 a2 m2 (by decide)).bind fun _ a3 _ h3 m3 => ?_
            refine (iE a3 _ m3).bind fun _ a4 _ h4 m4 => ?_
            refine (pTake_fx L 9 a4 m4 (by decide)).bind fun _ a5 _ h5 m5 => ?_
            refine (iE a5 _ m5).bind fun _ a6 _ h6 m6 => ?_
            exact ⟨by omega, m6⟩
          · refine (iS a l ha).bind fun _ a1 _ h1 m1 => ?_
            split
            · rename_i hk
              obtain ⟨h2, m2⟩ := nx_fw L a1 15 m1 hk (by decide)
              refine (iS _ l m2).bind fun _ a3 _ h3 m3 => ?_
              exact ⟨by omega, m3⟩
            · exact ⟨h1, m1⟩
    · intro a l ha
      rw [pSum]
      refine (iP a l ha).bind fun x a1 _ h1 m1 => ?_
      exact (iSL x a1 l m1).mono h1
    · intro x a l ha
      rw [pSumL]
      split
      · rename_i hk
        obtain ⟨h2, m2⟩ := nx_fw L a 16 ha hk (by decide)
        refine (iP _ l m2).bind fun _ a3 _ h3 m3 => ?_
        exact (iSL _ a3 l m3).mono (by omega)
      · split
        · rename_i hk
          obtain ⟨h2, m2⟩ := nx_fw L a 17 ha hk (by decide)
          refine (iP _ l m2).bind fun _ a3 _ h3 m3 => ?_
          exact (iSL _ a3 l m3).mono (by omega)
        · exact ⟨Nat.le_refl _, ha⟩
    · intro a l ha
      rw [pProd]
      refine (iX a l ha).bind fun x a1 _ h1 m1 => ?_
      exact (iPL x a1 l m1).mono h1
    · intro x a l ha
      rw [pProdL]
      split
      · rename_i hk
        obtain ⟨h2, m2⟩ := nx_fw L a 18 ha hk (by decide)
        refine (iX _ l m2).bind fun _ a3 _ h3 m3 => ?_
        exact (iPL _ a3 l m3).mono (by omega)
      · split
        · rename_i hk
          obtain ⟨h2, m2⟩ := nx_fw L a 19 ha hk (by decide)
          refine (iX _ l m2).bind fun _ a3 _ h3 m3 => ?_
          exact (iPL _ a3 l m3).mono (by omega)
        · exact ⟨Nat.le_refl _, ha⟩
    · intro a l ha
      rw [pPart]
      split
      · refine (pName_fx L a ha).bind fun nm a1 _ h1 m1 => ?_
        split
        · refine (iLs a1 l m1).bind fun xs a2 _ h2 m2 => ?_
          exact ⟨by omega, m2⟩
        · exact ⟨h1, m1⟩
      · split
        · refine (pEnter_fx L 10 a l ha (by decide)).bind fun _ a1 _ h1 m1 => ?_
          refine (iE a1 _ m1).bind fun _ a2 _ h2 m2 => ?_
          refine (pTake_fx L 11 a2 m2 (by decide)).bind fun _ a3 _ h3 m3 => ?_
          exact ⟨by omega, m3⟩
        · split
          · refine (pEnter_fx L 17 a l ha (by decide)).bind fun _ a1 _ h1 m1 => ?_
            refine (iX a1 _ m1).bind fun _ a2 _ h2 m2 => ?_
            exact ⟨by omega, m2⟩
          · exact pNum_fx L a ha
    · intro a l ha
      rw [pList]
      refine (pEnter_fx L 10 a l ha (by decide)).bind fun _ a1 _ h1 m1 => ?_
      refine Res.Fx.bind (a := a1) ?_ fun xs a3 _ h3 m3 => ?_
      · split
        · exact ⟨Nat.le_refl _, m1⟩
        · refine (iE a1 _ m1).bind fun x a2 _ h2 m2 => ?_
          exact (iA _ a2 _ m2).mono (by omega)
      · refine (pTake_fx L 11 a3 m3 (by decide)).bind fun _ a4 _ h4 m4 => ?_
        exact ⟨by omega, m4⟩
    · intro xs a l ha
      rw [pArgs]
      split
      · rename_i hk
        obtain ⟨h2, m2⟩ := nx_fw L a 12 ha hk (by decide)
        refine (iE _ l m2).bind fun _ a3 _ h3 m3 => ?_
        exact (iA _ a3 l m3).mono (by omega)
      · exact ⟨Nat.le_refl _, ha⟩

theorem pNames_fx (L : List UInt8) : ∀ (f : Nat) (xs : List (List UInt8 × Nat)) (a : Nat), a ≤ L.length → (pNames L f xs a).Fx L.length a
  | 0, _, _, _ => by rw [pNames]; trivial
  | f + 1, xs, a, ha => by
    rw [pNames]
    split
    · rename_i hk
      obtain ⟨h2, m2⟩ := nx_fw L a 12 ha hk (by decide)
      refine (pName_fx L _ m2).bind fun x j _ h3 m3 => ?_
      exact (pNames_fx L f _ j m3).mono (by omega)
    · exact ⟨Nat.le_refl _, ha⟩
theorem pBrack_fx (L : List UInt8) (f a : Nat) (ha : a ≤ L.length) : (pBrack L f a).Fx L.length (a + 1) := by
  unfold pBrack
  refine (pTake_fx L 10 a ha (by decide)).bind fun _ a1 _ h1 m1 => ?_
  refine Res.Fx.bind (a := a1) ?_ fun xs a3 _ h3 m3 => ?_
  · split
    · exact ⟨Nat.le_refl _, m1⟩
    · refine (pName_fx L a1 m1).bind fun x a2 _ h2 m2 => ?_
      exact (pNames_fx L f _ a2 m2).mono (by omega)
  · refine (pTake_fx L 11 a3 m3 (by decide)).bind fun _ a4 _ h4 m4 => ?_
    exact ⟨by omega, m4⟩
theorem pFun_fx (L : List UInt8) (f a : Nat) (ha : a ≤ L.length) : (pFun L f a).Fx L.length (a + 1) := by
  unfold pFun
  refine (pTake_fx L 4 a ha (by decide)).bind fun _ a1 _ h1 m1 => ?_
  refine (pName_fx L a1 m1).bind fun nm a2 _ h2 m2 => ?_
  refine (pBrack_fx L f a2 m2).bind fun more a3 _ h3 m3 => ?_
  refine (pTake_fx L 14 a3 m3 (by decide)).bind fun _ a4 _ h4 m4 => ?_
  refine ((p_fx L f).1 a4 0 m4).bind fun x a5 _ h5 m5 => ?_
  exact ⟨by omega, m5⟩

end Go.Proofs.YtmmgkdcojkmlcaaGreatDoor

namespace Go.Proofs.YtmmgkdcojkmlcaaGreatDoor
open Go.RowKit

/-- expressions in a row of the call's own -/
def RowT (base : Nat) (w : World) (v : Value) (ts : List Tr) : Prop := ∃ vals : List Value, w.ownsRow base 70 1 v ts.length vals ∧ ∀ (i : Nat) t, ts[i]? = some t → ∃ u, vals[i]? = some u ∧ PTB (fun b => base ≤ b ∧ some b ≠ v.ownBlock) w t u
theorem ownsRow_fr {R base : Nat} {w w' : World} {e : TypeId} {k : Nat} {v : Value} {n : Nat} {xs : List Value} (h : w.ownsRow base e k v n xs) (f : Fr R w w') (hb : R < base) : w'.ownsRow base e k v n xs := by
  refine ⟨h.1, ?_⟩
  rcases h.2 with hn | ⟨g, cap, cur, h1, hbs, hg, rest⟩
  · exact .inl hn
  · exact .inr ⟨g, cap, cur, h1, hbs, (f.2 g (Array.getElem?_eq_some_iff.1 hg).1 (by omega)).trans hg, rest⟩
theorem RowT.fr {R base : Nat} {w w' : World} {v : Value} {ts : List Tr} (h : RowT base w v ts) (f : Fr R w w') (hb : R < base) : RowT base w' v ts := by
  obtain ⟨vals, h1, h2⟩ := h
  refine ⟨vals, ownsRow_fr h1 f hb, fun i t ht => ?_⟩
  obtain ⟨u, h3, h4⟩ := h2 i t ht
  exact ⟨u, h3, PTB.keep (fun b hB hl => ⟨hB, f.2 b hl (by omega)⟩) t u h4⟩
theorem RowT.nil (base : Nat) (w : World) : RowT base w (.slice none 0 0) [] := ⟨[], World.ownsRow_nil _ _ _ _, fun i t ht => by simp at ht⟩
theorem RowT.form {base : Nat} {w : World} {v : Value} {ts : List Tr} (h : RowT base w v ts) : ∃ a c, v = .slice a ts.length c := by
  obtain ⟨vals, h1, _⟩ := h
  rcases h1.2 with ⟨rfl, h0⟩ | ⟨g, cap, cur, rfl, _⟩
  · exact ⟨none, 0, by rw [h0]⟩
  · exact ⟨_, _, rfl⟩
/-- one more -/
theorem RowT.push {base : Nat} {W w2 : World} {v v' : Value} {ts : List Tr} {t : Tr} {u : Value} {vals : List Value} (h1 : W.ownsRow base 70 1 v ts.length vals) (h2 : ∀ (i : Nat) t, ts[i]? = some t → ∃ u, vals[i]? = some u ∧ PTB (fun b => base ≤ b ∧ some b ≠ v.ownBlock) W t u)
    (hu : PTB (fun b => base ≤ b ∧ some b ≠ v.ownBlock) W t u) (ho : w2.ownsRow base 70 1 v' (ts.length + 1) (vals ++ [u])) (hg : W.grownBy w2 v.ownBlock) (hw : v'.ownBlock = v.ownBlock ∨ v'.ownBlock = some W.heap.size) : RowT base w2 v' (ts ++ [t]) := by
  have hk : ∀ b, (base ≤ b ∧ some b ≠ v.ownBlock) → b < W.heap.size → (base ≤ b ∧ some b ≠ v'.ownBlock) ∧ w2.heap[b]? = W.heap[b]? := fun b hB hl => by
    refine ⟨⟨hB.1, ?_⟩, hg.block b hl hB.2⟩
    rcases hw with e | e
    · rw [e]; exact hB.2
    · rw [e]; intro e2; injection e2; omega
  have hlen : vals.length = ts.length := by have := h1.1; omega
  refine ⟨vals ++ [u], by rw [List.length_append]; exact ho, fun i x hx => ?_⟩
  rcases Nat.lt_or_ge i ts.length with hi | hi
  · rw [List.getElem?_append_left hi] at hx
    obtain ⟨y, h3, h4⟩ := h2 i x hx
    exact ⟨y, by rw [List.getElem?_append_left (by omega)]; exact h3, PTB.keep hk x y h4⟩
  · have hi2 : i = ts.length := by
      have : i < (ts ++ [t]).length := (List.getElem?_eq_some_iff.1 hx).1
      simp at this
      omega
    subst hi2
    simp at hx
    subst hx
    exact ⟨u, by rw [← hlen]; simp, PTB.keep hk t u hu⟩
/-- what list gives -/
def VL (lo : Nat) : World → Value → List Tr → Prop := fun w v ts => ∃ a c, v = .slice a ts.length c ∧ PTs lo w a ts 0
theorem RowT.vl {base : Nat} {w : World} {v : Value} {ts : List Tr} (h : RowT base w v ts) : VL base w v ts := by
  obtain ⟨vals, h1, h2⟩ := h
  rcases h1.2 with ⟨rfl, h0⟩ | ⟨g, cap, cur, rfl, hbs, _⟩
  · obtain rfl : ts = [] := List.length_eq_zero_iff.1 h0
    exact ⟨none, 0, rfl, trivial⟩
  · refine ⟨_, _, rfl, PTBs_of hbs ts 0 fun j hj => ?_⟩
    obtain ⟨u, h3, h4⟩ := h2 j ts[j] (by simp [hj])
    have h5 := h1.cells (g := g) rfl j u h3
    have hadd : (⟨g, 0, none⟩ : Addr).add j = ⟨g, 0 + j, none⟩ := by unfold Addr.add; split <;> simp_all
    rw [hadd] at h5
    refine ⟨u, h5, fun t ht => ?_⟩
    simp [hj] at ht
    subst ht
    exact PTB.keep (fun b hB _ => ⟨hB.1, rfl⟩) _ _ h4
/-- where the reader is, by the world -/
def rdm (R : Nat) (w : World) : Nat := match w.cell? ⟨R, 2, none⟩ with
  | some (.int _ n) => n.toNat
  | _ => 0
theorem RdAt.rdm {w : World} {R : Nat} {T : ByteArray} {j l : Nat} (h : RdAt w R T j l) : rdm R w = (tok (by' T) j).at' := by
  unfold Go.Proofs.YtmmgkdcojkmlcaaGreatDoor.rdm
  have : w.cell? ⟨R, 2, none⟩ = some (.int .i64 ((tok (by' T) j).at' : Int)) := by simp [World.cell?, h.h]
  rw [this]
  simp
theorem Fr.grown {R : Nat} {w W w2 : World} {o : Option Nat} (f : Fr R w W) (hg : W.grownBy w2 o) (ho : ∀ k, o = some k → w.heap.size ≤ k) (hR : R < w.heap.size) : Fr R w w2 := by
  refine ⟨⟨hg.os.trans f.1.os, hg.tape.trans f.1.tape, hg.output.trans f.1.output, Nat.le_trans f.size hg.size, fun b hb => ?_⟩, fun b hb hne => ?_⟩
  · exact (hg.block b (by have := f.size; omega) (fun e => by have := ho b e.symm; omega)).trans (f.1.block b hb)
  · exact (hg.block b (by have := f.size; omega) (fun e => by have := ho b e.symm; omega)).trans (f.2 b hb hne)

end Go.Proofs.YtmmgkdcojkmlcaaGreatDoor

namespace Go.Proofs.YtmmgkdcojkmlcaaGreatDoor
open Go.RowKit

/-- what is left to read behind some expressions -/
def ArgR (T : ByteArray) (f l : Nat) (r : Res (List Tr)) (ts : List Tr) (a : Nat) : Prop :=
  (ts = [] ∧ r = (pTake (by' T) 11 a).bind fun _ a4 => .ok [] a4) ∨ (ts ≠ [] ∧ ∃ g, g ≤ f ∧ r = (pArgs (by' T) g ts a l).bind fun xs a3 => (pTake (by' T) 11 a3).bind fun _ a4 => .ok xs a4)

theorem Res.three {α : Type} (r : Res α) : (∃ x j, r = .ok x j) ∨ (∃ e a, r = .bad e a) ∨ r = .out := by
  cases r with
  | ok x j => exact .inl ⟨x, j, rfl⟩
  | bad e a => exact .inr (.inl ⟨e, a, rfl⟩)
  | out => exact .inr (.inr rfl)

set_option maxRecDepth 100000 in
set_option maxHeartbeats 4000000 in
theorem listX (R : Nat) (T : ByteArray) (f j l : Nat) (w : World) (hE : ∀ g, g ≤ f → EC R T g) (hR : RdAt w R T j l) (hl : l ≤ 64) (r : Res (List Tr)) (hr : r = pList (by' T) (f + 1) j l) (hro : r ≠ .out) :
    Calls Tryz.prog 121 #[.pointer (some ⟨R, 0, none⟩), .func (.func 81) #[.pointer (some ⟨R, 0, none⟩)] #[]] w (Rx w R T l l (VL w.heap.size) r) := by
  have HT := hid (enterX R T j l 10 w hR hl)
  have hlt := hR.lt
  have HSM := hid hR.small
  have HE := hid hE
  rw [pList] at hr
  have HR := hid hr
  have HRO := hid hro
  obtain ⟨i0, hi, hz0, hz1, hz2⟩ := info_parts (show (Tryz.prog.info? 70).map (fun i => (i.zero, i.size, i.bytes)) = some (some (.pointer none), 1, 8) by kernel_rfl)
  have HI := hid (And.intro hi (And.intro hz0 (And.intro hz1 hz2)))
  clear hR hr hro hE hi hz0 hz1 hz2
  go_enter_defers Tryz.func121, Tryz.ntmps121
  go_wp2_with fail
  refine HT.out.mono ?_
  intro e w0 he
  cases hp : pEnter (by' T) 10 j l with
  | out => exact absurd hp pEnter_out
  | bad er at' =>
    rw [hp] at he
    obtain ⟨h1, rfl, h2⟩ := he
    have hr2 := HR.out
    rw [hp] at hr2
    subst hr2
    exact ⟨h1, rfl, h2⟩
  | ok u a0 =>
    rw [hp] at he
    obtain ⟨h1, v, rfl, rfl, h2⟩ := he
    have hl64 : l + 1 ≤ 64 := by have := (pEnter_ok hp).2.2; omega
    have hr2 := HR.out
    rw [hp] at hr2
    simp only [Res.bind] at hr2
    have HF0 := hid h1
    have HD0 := hid h2
    have HR0 := hid hr2
    have c1 : w0.cell? ⟨R, 1, none⟩ = some (.int .i64 ((tok (by' T) a0).kind : Int)) := by simp [World.cell?, h2.h]
    clear h1 h2 hp HT HR hr2
    obtain ⟨kd, hkd⟩ : ∃ kd, (tok (by' T) a0).kind = kd := ⟨_, rfl⟩
    have HKD := hid hkd
    rw [hkd] at c1
    clear hkd
    by_cases h11 : kd = 11
    case' pos =>
      have q : ((kd : Int) != 11) = false := by rw [h11]; rfl
      have hr2 := HR0.out
      rw [if_pos (HKD.out.trans h11)] at hr2
      have HAr : Hid (ArgR T f (l + 1) r [] a0) := .inl ⟨rfl, hr2⟩
      clear hr2 h11
      go_wp2_with fail
      obtain ⟨wA, hwA⟩ : ∃ wA, wA = w0 := ⟨_, rfl⟩
      obtain ⟨vA, hvA⟩ : ∃ vA : Value, vA = .slice none 0 0 := ⟨_, rfl⟩
      obtain ⟨tsA, htA⟩ : ∃ tsA : List Tr, tsA = [] := ⟨_, rfl⟩
      obtain ⟨aA, haA⟩ : ∃ aA, aA = a0 := ⟨_, rfl⟩
      have HRow : Hid (RowT w.heap.size wA vA tsA) := by rw [hwA, hvA, htA]; exact RowT.nil _ _
      have HLn : Hid (tsA.length ≤ aA) := by rw [htA]; exact Nat.zero_le _
      rw [← hwA, ← haA] at HD0
      rw [← hwA] at HF0
      rw [← htA, ← haA] at HAr
      rw [← hwA, ← hvA]
      have HFa := HF0
      have HDa := HD0
      clear hwA hvA htA haA HF0 HD0 HR0 q c1
    case' neg =>
      have q : ((kd : Int) != 11) = true := by simp; omega
      have hr2 := HR0.out
      rw [if_neg (fun e => h11 (HKD.out.symm.trans e))] at hr2
      have hne : pExpr (by' T) f a0 (l + 1) ≠ .out := fun e => by rw [e] at hr2; exact HRO.out hr2
      have HC := hid (HE.out f (Nat.le_refl _) a0 (l + 1) w0 HD0.out hl64 hne)
      have HR1 := hid hr2
      have hfx := (p_fx (by' T) f).1 a0 (l + 1) (by rw [by_len]; exact HD0.out.le)
      have HFX := hid hfx
      clear hr2 h11 hfx
      go_wp2_with fail
      refine HC.out.mono ?_
      intro e w1 he
      have hr2 := HR1.out
      rcases Res.three (pExpr (by' T) f a0 (l + 1)) with ⟨x, a1, ht⟩ | ⟨er, at', ht⟩ | ht
      rotate_left
      · rw [ht] at he hr2
        obtain ⟨h5, rfl, j3, h6⟩ := he
        (try simp only at hr2)
        subst hr2
        refine leave_pnc h6 hl ?_
        exact ⟨(HF0.out.trans h5).set 4 _, rfl, j3, h6.level l⟩
      · exact absurd ht hne
      rw [ht] at he hr2
      obtain ⟨h5, v, rfl, hv, h6⟩ := he
      obtain ⟨qx, rfl⟩ := hv.form
      (try simp only at hr2)
      have hfx := HFX.out
      rw [ht] at hfx
      have hF1 := HF0.out.trans h5
      have HAr : Hid (ArgR T f (l + 1) r [x] a1) := .inr ⟨by simp, f, Nat.le_refl _, hr2⟩
      have HLn : Hid ([x].length ≤ a1) := by have := hfx.1; show 1 ≤ a1; omega
      have hs0 := HF0.out.size
      have hs1 := hF1.size
      have HF1 := hid hF1
      have HD1 := hid h6
      have HV := hid (PTB.keep (B' := fun b => w.heap.size ≤ b ∧ some b ≠ (Value.slice none 0 0).ownBlock) (fun b hB _ => ⟨⟨by omega, by simp [Value.ownBlock]⟩, rfl⟩) _ _ hv : PTB (fun b => w.heap.size ≤ b ∧ some b ≠ (Value.slice none 0 0).ownBlock) w1 x (.pointer (some ⟨qx, 0, none⟩)))
      clear hv HC hne h5 h6 hr2 ht hfx HFX HF0 HD0 HR0 HR1 q c1 hF1
      go_wp2_with (at_builtin; refine wpList_append_own_at _ rfl _ _ 188 rfl w.heap.size 70 i0 (.pointer none) 1 8 Tryz.underlying188 HI.out.1 HI.out.2.1 HI.out.2.2.1 HI.out.2.2.2 rfl (by decide) (.slice none 0 0) 0 [] rfl (World.ownsRow_nil _ _ _ _) ⟨w1.heap.size, 0, none⟩ 1 1 [.pointer (some ⟨qx, 0, none⟩)] rfl rfl (cell_one_new _ _ _) (by simp [Value.oneCell']) (by simp [maxLen]) (by omega) (by simp; omega) ?_; intro v' w2 hown2 hgrow _ hwhere)
      have hbA : Below w1.heap.size w1 (w1.alloc (.cells #[.pointer (some ⟨qx, 0, none⟩)] 70)) := (Below.refl _ _).alloc (Nat.le_refl _) _
      have HRow : Hid (RowT w.heap.size w2 v' [x]) := RowT.push (ts := []) (World.ownsRow_nil _ _ _ _) (fun i t ht => by simp at ht) (PTB.keep (fun b hB hl => ⟨hB, hbA.block b hl⟩) _ _ HV.out) hown2 hgrow hwhere
      have hfr2 : Fr R w w2 := (HF1.out.more hbA hlt).grown hgrow (fun k e => by simp [Value.ownBlock] at e) hlt
      have hrd2 : RdAt w2 R T a1 (l + 1) := by
        have h7 := HD1.out.below hbA
        exact ⟨(hgrow.block R h7.lt (by simp [Value.ownBlock])).trans h7.h, h7.le, h7.small, by
          obtain ⟨k1, ev, k2, k3⟩ := h7.ev
          exact ⟨k1, ev, hgrow.cell k2 (by simp [Value.ownBlock]), k3⟩⟩
      have HFa := hid hfr2
      have HDa := hid hrd2
      obtain ⟨tsA, htA⟩ : ∃ tsA : List Tr, tsA = [x] := ⟨_, rfl⟩
      rw [← htA] at HRow HLn HAr
      clear hbA hown2 hgrow hwhere hfr2 hrd2 htA HF1 HD1 HV hs0 hs1
    all_goals
      go_loopw [5] (fun v wr => ∃ (ts : List Tr) (a : Nat), Hid (Fr R w wr) ∧ Hid (RdAt wr R T a (l + 1)) ∧ Hid (RowT w.heap.size wr v ts) ∧ Hid (ts.length ≤ a) ∧ Hid (ArgR T f (l + 1) r ts a)) (fun _ wr => T.size + 1 - rdm R wr)
      case atStart => exact ⟨_, _, HFa, HDa, HRow, HLn, HAr⟩
      case round =>
        obtain ⟨ts, a, hF, hD, hRw, hLn, hAr⟩ := hrel
        obtain ⟨av, cv, rfl⟩ := hRw.out.form
        have c1 : wr.cell? ⟨R, 1, none⟩ = some (.int .i64 ((tok (by' T) a).kind : Int)) := by simp [World.cell?, hD.out.h]
        clear HFa HDa HRow HLn HAr
        have HRD := hid hD.out.rdm
        have HTA := hid (tok_at (by' T) a (by rw [by_len]; exact hD.out.le))
        obtain ⟨ka, hka⟩ : ∃ ka, (tok (by' T) a).kind = ka := ⟨_, rfl⟩
        rw [hka] at c1
        have HKA := hid hka
        obtain ⟨n, hn⟩ : ∃ n, ts.length = n := ⟨_, rfl⟩
        have HN := hid hn
        rw [hn] at hRw ⊢
        by_cases hc : ts ≠ [] ∧ ka = 12
        · have hnp : 0 < n := by rw [← hn]; exact List.length_pos_iff.2 hc.1
          have hnp2 : (0 : Int) < (n : Int) := by omega
          have q12 : ((ka : Int) == 12) = true := by rw [hc.2]; rfl
          have HT := hid (take_yes R T a (l + 1) 12 wr hD.out (hka.trans hc.2))
          have hgx : ∃ g, g + 1 ≤ f ∧ r = ((pExpr (by' T) g (tok (by' T) a).nx (l + 1)).bind fun x j => pArgs (by' T) g (ts ++ [x]) j (l + 1)).bind fun xs a3 => (pTake (by' T) 11 a3).bind fun _ a4 => .ok xs a4 := by
            rcases hAr.out with ⟨h0, _⟩ | ⟨_, g, hg, hr2⟩
            · exact absurd h0 hc.1
            · cases g with
              | zero => rw [pArgs] at hr2; exact absurd hr2 HRO.out
              | succ g => exact ⟨g, hg, by rw [pArgs, if_pos (hka.trans hc.2)] at hr2; exact hr2⟩
          obtain ⟨g, hgf, hr2⟩ := hgx
          have HG := hid hgf
          have HR1 := hid hr2
          have hnxx : (tok (by' T) a).at' + 1 ≤ (tok (by' T) a).nx := HTA.out.2.2.2.1 (by rw [hka, hc.2]; decide)
          have HNX := hid hnxx
          have HDL := hid hD.out.le
          clear hc hka hn hr2 hgf hnp hnxx
          generalize (tok (by' T) a).nx = nx at *
          generalize tokv (tok (by' T) a) = tv at *
          go_wp2_with fail
          refine HT.out.mono ?_
          rintro e w3 ⟨rfl, h3, h4⟩
          have HF3 := hid (hF.out.trans h3)
          have HD3 := hid h4
          have HRw3 := hid (hRw.out.fr h3 hlt)
          have hne : pExpr (by' T) g nx (l + 1) ≠ .out := fun e => by have hr2 := HR1.out; rw [e] at hr2; exact HRO.out hr2
          have HC := hid (HE.out g (by have := HG.out; omega) nx (l + 1) w3 h4 hl64 hne)
          have HFX := hid ((p_fx (by' T) g).1 nx (l + 1) (by rw [by_len]; exact h4.le))
          clear h3 h4 HT c1 q12 hF hD hRw
          go_wp2_with fail
          refine HC.out.mono ?_
          intro e w4 he
          have hr2 := HR1.out
          rcases Res.three (pExpr (by' T) g nx (l + 1)) with ⟨x, a1, ht⟩ | ⟨er, at', ht⟩ | ht
          · rw [ht] at he hr2
            obtain ⟨h5, v, rfl, hv, h6⟩ := he
            obtain ⟨qx, rfl⟩ := hv.form
            (try simp only [Res.bind] at hr2)
            have hfx := HFX.out
            rw [ht] at hfx
            have hF4 := HF3.out.trans h5
            have hRw4 := HRw3.out.fr h5 hlt
            obtain ⟨vals, hown4, hel4⟩ := hRw4
            have hbA : Below w4.heap.size w4 (w4.alloc (.cells #[.pointer (some ⟨qx, 0, none⟩)] 70)) := (Below.refl _ _).alloc (Nat.le_refl _) _
            have hown3 := HRw3.out
            have hgl : ∀ k, (Value.slice av n cv).ownBlock = some k → w.heap.size ≤ k ∧ k < w3.heap.size := fun k e => by
              obtain ⟨vals3, h7, _⟩ := hown3
              exact h7.lt k e
            have hB : PTB (fun b => w.heap.size ≤ b ∧ some b ≠ (Value.slice av n cv).ownBlock) w4 x (.pointer (some ⟨qx, 0, none⟩)) := PTB.keep (fun b hb _ => by
              have hb' : w3.heap.size ≤ b := hb
              have hs3 := HF3.out.size
              exact ⟨⟨by omega, fun e => by have := hgl b e.symm; omega⟩, rfl⟩) _ _ hv
            have HB4 := hid (PTB.keep (B' := fun b => w.heap.size ≤ b ∧ some b ≠ (Value.slice av n cv).ownBlock) (fun b hB2 hl2 => ⟨hB2, hbA.block b hl2⟩) _ _ hB : PTB (fun b => w.heap.size ≤ b ∧ some b ≠ (Value.slice av n cv).ownBlock) (w4.alloc (.cells #[.pointer (some ⟨qx, 0, none⟩)] 70)) x (.pointer (some ⟨qx, 0, none⟩)))
            have hownA := hown4.alloc (.cells #[.pointer (some ⟨qx, 0, none⟩)] 70)
            have hAr2 : ArgR T f (l + 1) r (ts ++ [x]) a1 := .inr ⟨by simp, g, by have := HG.out; omega, hr2⟩
            have hLn2 : (ts ++ [x]).length ≤ a1 := by
              have h7 := hLn.out
              have h8 := HTA.out.1
              have h9 := hfx.1
              have h10 := HNX.out
              rw [List.length_append]
              show ts.length + 1 ≤ a1
              omega
            have hn4 : n ≤ 4000 := by
              have h7 := hLn.out
              have h8 := HSM.out
              have h9 := HDL.out
              have h10 := HN.out
              omega
            have hs4 := hF4.size
            have HOWN := hid hownA
            have HEL := hid hel4
            have HAr2 := hid hAr2
            have HLn2 := hid hLn2
            have HF4 := hid hF4
            have HD4 := hid h6
            have HGL := hid hgl
            have HN4 := hid hn4
            have HS4 := hid hs4
            have hln : ts.length = n := HN.out
            rw [hln] at HOWN
            have HFX2 := hid hfx
            clear hB hownA hown4 hel4 hAr2 hLn2 hF4 h6 hgl hn4 hs4 hown3 hbA hv h5 hr2 ht hfx HC hne HF3 HD3 HRw3 hln
            go_wp2_with (at_builtin; refine wpList_append_own_at _ rfl _ _ 188 rfl w.heap.size 70 i0 (.pointer none) 1 8 Tryz.underlying188 HI.out.1 HI.out.2.1 HI.out.2.2.1 HI.out.2.2.2 rfl (by decide) (.slice av n cv) n vals rfl HOWN.out ⟨w4.heap.size, 0, none⟩ 1 1 [.pointer (some ⟨qx, 0, none⟩)] rfl rfl (cell_one_new _ _ _) (by simp [Value.oneCell']) (by have := HN4.out; unfold maxLen; omega) (by have := HN4.out; omega) (by have := HS4.out; simp; omega) ?_; intro v' w5 hown2 hgrow _ hwhere)
            have hbA : Below w4.heap.size w4 (w4.alloc (.cells #[.pointer (some ⟨qx, 0, none⟩)] 70)) := (Below.refl _ _).alloc (Nat.le_refl _) _
            have hnR : some R ≠ (Value.slice av n cv).ownBlock := fun e => by have := (HGL.out R e.symm).1; omega
            have hln : ts.length = n := HN.out
            have hown2' := hown2
            rw [← hln] at hown2'
            have HRow2 : Hid (RowT w.heap.size w5 v' (ts ++ [x])) := RowT.push (by rw [hln]; exact HOWN.out) (fun i t ht => by
              obtain ⟨u, k1, k2⟩ := HEL.out i t ht
              exact ⟨u, k1, PTB.keep (fun b hB2 hl2 => ⟨hB2, hbA.block b hl2⟩) _ _ k2⟩) HB4.out hown2' hgrow hwhere
            have hfr5 : Fr R w w5 := (HF4.out.more hbA hlt).grown hgrow (fun k e => (HGL.out k e).1) hlt
            have hrd5 : RdAt w5 R T a1 (l + 1) := by
              have h7 := HD4.out.below hbA
              exact ⟨(hgrow.block R h7.lt hnR).trans h7.h, h7.le, h7.small, by
                obtain ⟨k1, ev, k2, k3⟩ := h7.ev
                exact ⟨k1, ev, hgrow.cell k2 (fun e => by have := (HGL.out _ e.symm).1; simp at this; omega), k3⟩⟩
            have HFa := hid hfr5
            have HDa := hid hrd5
            have hm : T.size + 1 - rdm R w5 < T.size + 1 - rdm R wr := by
              rw [hrd5.rdm, HRD.out]
              have k1 := tok_at (by' T) a1 (by rw [by_len]; exact hrd5.le)
              rw [by_len] at k1
              have k2 := HTA.out
              have k3 := HFX2.out.1
              have k4 := HNX.out
              omega
            have HM := hid hm
            clear hbA hnR hln hown2' hown2 hgrow hwhere hfr5 hrd5 hm
            go_roundw
            case rel => exact ⟨ts ++ [x], a1, HFa, HDa, HRow2, HLn2, HAr2⟩
            case measure => exact HM.out
          · rw [ht] at he hr2
            obtain ⟨h5, rfl, j3, h6⟩ := he
            (try simp only [Res.bind] at hr2)
            subst hr2
            refine leave_pnc h6 hl ?_
            exact ⟨(HF3.out.trans h5).set 4 _, rfl, j3, h6.level l⟩
          · exact absurd ht hne
        · have hr2 : r = (pTake (by' T) 11 a).bind fun _ a4 => .ok ts a4 := by
            rcases hAr.out with ⟨h0, h1⟩ | ⟨h0, g, hg, h1⟩
            · rw [h0]; exact h1
            · cases g with
              | zero => rw [pArgs] at h1; exact absurd h1 HRO.out
              | succ g => rw [pArgs, if_neg (fun e => hc ⟨h0, hka.symm.trans e⟩)] at h1; exact h1
          have HR1 := hid hr2
          have hq : n = 0 ∨ (0 < n ∧ ((ka : Int) == 12) = false) := by
            rcases Nat.eq_zero_or_pos n with h0 | h0
            · exact .inl h0
            · refine .inr ⟨h0, ?_⟩
              have h5 : ¬ ka = 12 := fun e => hc ⟨fun e2 => by rw [e2] at hn; simp at hn; omega, e⟩
              simp
              omega
          have HT := hid (takeX R T a (l + 1) 11 wr hD.out)
          have HRV := hid hRw.out.vl
          clear hc hka hn hr2 hAr
          rcases hq with rfl | ⟨hnp, q12⟩
          case' inr => have hnp2 : (0 : Int) < (n : Int) := by omega
          all_goals
            go_wp2_with fail
            refine HT.out.mono ?_
            intro e w3 he
            have hr2 := HR1.out
            cases ht : pTake (by' T) 11 a with
            | out => exact absurd ht pTake_out
            | bad er at' =>
              rw [ht] at he hr2
              obtain ⟨h5, rfl, j3, h6⟩ := he
              (try simp only [Res.bind] at hr2)
              subst hr2
              refine leave_pnc h6 hl ?_
              exact ⟨(hF.out.trans h5).set 4 _, rfl, j3, h6.level l⟩
            | ok t3 a3 =>
              rw [ht] at he hr2
              obtain ⟨h5, v, rfl, rfl, h6⟩ := he
              (try simp only [Res.bind] at hr2)
              have HF3 := hid (hF.out.trans h5)
              have HD3 := hid h6
              have HRw3 := hid (hRw.out.fr h5 hlt)
              have HR3 := hid hr2
              clear h5 h6 hr2 ht HT
              go_wp2_with fail
              have hr3 := HR3.out
              subst hr3
              refine leave_ret HD3.out hl (results_tmp rfl _ _ _) ?_
              exact ⟨HF3.out.set 4 _, _, rfl, (HRw3.out.fr ((Fr.refl R _).set 4 _) hlt).vl, HD3.out.level l⟩

end Go.Proofs.YtmmgkdcojkmlcaaGreatDoor

namespace Go.Proofs.YtmmgkdcojkmlcaaGreatDoor
open Go.RowKit

set_option maxRecDepth 100000 in
set_option maxHeartbeats 2000000 in
theorem sumX (R : Nat) (T : ByteArray) (f j l : Nat) (w : World) (hP : ∀ g, g ≤ f → PC R T g) (hR : RdAt w R T j l) (hl : l ≤ 64) (r : Res Tr) (hr : r = pSum (by' T) (f + 1) j l) (hro : r ≠ .out) :
    Calls Tryz.prog 103 #[.pointer (some ⟨R, 0, none⟩)] w (Rx w R T l l (VX w.heap.size) r) := by
  have hmf : ∀ (fn : Go.Fn) (first cap : Array Value) (w : World), (Instr.makeFunc fn first cap).run Tryz.prog w = .ok (.func fn first cap) w := fun _ _ _ _ => rfl
  have hF : ∀ args w, (callFunc 111 args).run Tryz.prog w = .ok (.enter 111 args) w := enters_of Tryz.func111 (by kernel_rfl) rfl
  have hlt := hR.lt
  have HP := hid hP
  rw [pSum] at hr
  have hne0 : pProd (by' T) f j l ≠ .out := fun e => by rw [e] at hr; exact hro hr
  have HC0 := hid (hP f (Nat.le_refl _) j l w hR hl hne0)
  have HR := hid hr
  have HRO := hid hro
  have HFF := hid hF
  clear hR hr hro hP hF
  go_enter Tryz.func103, Tryz.ntmps103
  go_wp2_with fail
  refine HC0.out.mono ?_
  intro e w0 he
  have hr2 := HR.out
  cases ht : pProd (by' T) f j l with
  | out => exact absurd ht hne0
  | bad er at' =>
    rw [ht] at he hr2
    obtain ⟨h5, rfl, h6⟩ := he
    simp only [Res.bind] at hr2
    subst hr2
    exact ⟨rfl, h5, rfl, h6⟩
  | ok x0 a0 =>
    rw [ht] at he hr2
    obtain ⟨h5, v, rfl, hv, h6⟩ := he
    obtain ⟨q0, rfl⟩ := hv.form
    simp only [Res.bind] at hr2
    have HF0 := hid h5
    have HD0 := hid h6
    have HV0 : Hid (PT w.heap.size w0 x0 (.pointer (some ⟨q0, 0, none⟩))) := hv
    have HR0 := hid hr2
    clear hv h5 h6 hr2 ht hne0 HC0 HR
    go_wp2_with fail
    go_loopw [3] (fun v wr => ∃ (x : Tr) (a : Nat), Hid (Fr R w wr) ∧ Hid (RdAt wr R T a l) ∧ Hid (PT w.heap.size wr x v) ∧ Hid (∃ g, g ≤ f ∧ r = pSumL (by' T) g x a l)) (fun _ wr => T.size + 1 - rdm R wr)
    case atStart => exact ⟨_, _, HF0, HD0, HV0, ⟨f, Nat.le_refl _, HR0.out⟩⟩
    case round =>
      obtain ⟨x, a, hFr, hD, hV, hG⟩ := hrel
      obtain ⟨q, rfl⟩ := hV.out.form
      have c1 : wr.cell? ⟨R, 1, none⟩ = some (.int .i64 ((tok (by' T) a).kind : Int)) := by simp [World.cell?, hD.out.h]
      clear HF0 HD0 HV0 HR0
      have HRD := hid hD.out.rdm
      have hta := tok_at (by' T) a (by rw [by_len]; exact hD.out.le)
      rw [by_len] at hta
      have HTA := hid hta
      clear hta
      obtain ⟨ka, hka⟩ : ∃ ka, (tok (by' T) a).kind = ka := ⟨_, rfl⟩
      rw [hka] at c1
      have HKA := hid hka
      have hgx : ∃ g, g + 1 ≤ f ∧ r = pSumL (by' T) (g + 1) x a l := by
        obtain ⟨g, hg, h1⟩ := hG.out
        cases g with
        | zero => rw [pSumL] at h1; exact absurd h1 HRO.out
        | succ g => exact ⟨g, hg, h1⟩
      obtain ⟨g, hgf, hr2⟩ := hgx
      rw [pSumL, hka] at hr2
      have HG := hid hgf
      have HR1 := hid hr2
      have hnx : ∀ k, ka = k → k ≠ 1 → (tok (by' T) a).at' + 1 ≤ (tok (by' T) a).nx := fun k e1 e2 => HTA.out.2.2.2.1 (by rw [hka, e1]; exact e2)
      have HNX := hid hnx
      have hs := hFr.out.size
      have HPA := hid (fun (kd : Nat) (rb : Res Tr) (hrb : rb ≠ .out) hB => pairX w.heap.size 111 HFF.out R T a l kd x _ wr rb hD.out hV.out hlt hs hrb hB)
      have HCB := hid (fun (hne : pProd (by' T) g (tok (by' T) a).nx l ≠ .out) W (h : RdAt W R T (tok (by' T) a).nx l) => HP.out g (by omega) (tok (by' T) a).nx l W h hl hne)
      have HFX := hid ((p_fx (by' T) g).2.2.2.1 (tok (by' T) a).nx l (by rw [by_len]; exact HTA.out.2.1))
      clear hr2 hgf hnx hka hG hs
      by_cases h1 : ka = 16
      · have q1 : ((ka : Int) == 16) = true := by rw [h1]; rfl
        have hr2 := HR1.out
        rw [if_pos h1] at hr2
        have hne : pProd (by' T) g (tok (by' T) a).nx l ≠ .out := fun e => by rw [e] at hr2; exact HRO.out hr2
        have HC := hid (HPA.out 4 _ hne (HCB.out hne))
        have hnx := HNX.out _ h1 (by decide)
        have HNX1 := hid hnx
        have HR2 := hid hr2
        clear hr2 h1 HPA HCB HNX hnx HR1
        generalize (tok (by' T) a).nx = nx at *
        go_wp2_with fail
        refine HC.out.mono ?_
        intro e w3 he
        have hr2 := HR2.out
        cases ht : pProd (by' T) g nx l with
        | out => exact absurd ht hne
        | bad er at' =>
          rw [ht] at he hr2
          obtain ⟨h5, rfl, h6⟩ := he
          simp only [Res.bind] at hr2
          subst hr2
          exact ⟨rfl, hFr.out.trans h5, rfl, h6⟩
        | ok y a3 =>
          rw [ht] at he hr2
          obtain ⟨h5, v, rfl, hv, h6⟩ := he
          obtain ⟨q3, rfl⟩ := (show PT w.heap.size w3 _ v from hv).form
          simp only [Res.bind] at hr2
          have HF3 := hid (hFr.out.trans h5)
          have HD3 := hid h6
          have HV3 : Hid (PT w.heap.size w3 (.node 4 [] 0 0 [x, y]) (.pointer (some ⟨q3, 0, none⟩))) := hv
          have HR3 : Hid (∃ g, g ≤ f ∧ r = pSumL (by' T) g (.node 4 [] 0 0 [x, y]) a3 l) := ⟨g, by have := HG.out; omega, hr2⟩
          have hm : T.size + 1 - rdm R w3 < T.size + 1 - rdm R wr := by
            rw [h6.rdm, HRD.out]
            have k1 := tok_at (by' T) a3 (by rw [by_len]; exact h6.le)
            rw [by_len] at k1
            have k2 := HTA.out
            have k3 := HFX.out
            rw [ht] at k3
            have k4 := HNX1.out
            have k5 := k3.1
            omega
          have HM := hid hm
          clear hv h5 h6 hr2 ht hne HC hm
          go_wp2_with fail
          go_roundw
          case rel => exact ⟨_, _, HF3, HD3, HV3, HR3⟩
          case measure => exact HM.out
      · have q1 : ((ka : Int) == 16) = false := by simp; omega
        by_cases h2 : ka = 17
        · have q2 : ((ka : Int) == 17) = true := by rw [h2]; rfl
          have hr2 := HR1.out
          rw [if_neg h1, if_pos h2] at hr2
          have hne : pProd (by' T) g (tok (by' T) a).nx l ≠ .out := fun e => by rw [e] at hr2; exact HRO.out hr2
          have HC := hid (HPA.out 5 _ hne (HCB.out hne))
          have hnx := HNX.out _ h2 (by decide)
          have HNX1 := hid hnx
          have HR2 := hid hr2
          clear hr2 h1 h2 HPA HCB HNX hnx HR1
          generalize (tok (by' T) a).nx = nx at *
          go_wp2_with fail
          refine HC.out.mono ?_
          intro e w3 he
          have hr2 := HR2.out
          cases ht : pProd (by' T) g nx l with
          | out => exact absurd ht hne
          | bad er at' =>
            rw [ht] at he hr2
            obtain ⟨h5, rfl, h6⟩ := he
            simp only [Res.bind] at hr2
            subst hr2
            exact ⟨rfl, hFr.out.trans h5, rfl, h6⟩
          | ok y a3 =>
            rw [ht] at he hr2
            obtain ⟨h5, v, rfl, hv, h6⟩ := he
            obtain ⟨q3, rfl⟩ := (show PT w.heap.size w3 _ v from hv).form
            simp only [Res.bind] at hr2
            have HF3 := hid (hFr.out.trans h5)
            have HD3 := hid h6
            have HV3 : Hid (PT w.heap.size w3 (.node 5 [] 0 0 [x, y]) (.pointer (some ⟨q3, 0, none⟩))) := hv
            have HR3 : Hid (∃ g, g ≤ f ∧ r = pSumL (by' T) g (.node 5 [] 0 0 [x, y]) a3 l) := ⟨g, by have := HG.out; omega, hr2⟩
            have hm : T.size + 1 - rdm R w3 < T.size + 1 - rdm R wr := by
              rw [h6.rdm, HRD.out]
              have k1 := tok_at (by' T) a3 (by rw [by_len]; exact h6.le)
              rw [by_len] at k1
              have k2 := HTA.out
              have k3 := HFX.out
              rw [ht] at k3
              have k4 := HNX1.out
              have k5 := k3.1
              omega
            have HM := hid hm
            clear hv h5 h6 hr2 ht hne HC hm
            go_wp2_with fail
            go_roundw
            case rel => exact ⟨_, _, HF3, HD3, HV3, HR3⟩
            case measure => exact HM.out
        · have q2 : ((ka : Int) == 17) = false := by simp; omega
          have hr2 := HR1.out
          rw [if_neg h1, if_neg h2] at hr2
          have HR2 := hid hr2
          clear hr2 h1 h2 HPA HCB HNX HR1
          go_wp2_with fail
          go_ret
          have hr3 := HR2.out
          subst hr3
          exact ⟨hFr.out, _, rfl, hV.out, hD.out⟩

end Go.Proofs.YtmmgkdcojkmlcaaGreatDoor
