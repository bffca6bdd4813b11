/- Package source: a region that draws, in a function that defers. -/
import Derived.Test.YthpkcageimhgaaaDoorSqAD
namespace Go.Proofs.YthpkcageimhgaaaDoor
open Go.RowKit

section
variable {P : Program} {ops : Array Oper} {Q : Exit → Act → World → Prop} {md : Region.Mode} {S : World → Prop}
theorem drop_atS {i : Nat} {oi : Oper} {rest : List Oper} (hl : ops.toList.drop i = oi :: rest) : ops[i]? = some oi := by
  have := congrArg (fun l => l[0]?) hl
  simpa [List.getElem?_drop] using this
theorem wpAnyH_takeS {i : Nat} {oi : Oper} {rest : List Oper} {v : Value} {fuel : Nat} {listed : Array Bool} {a : Act} {w : World} (hl : ops.toList.drop i = oi :: rest)
    (hs : Region.noSelect ops = true) (hf : Region.free md ops listed i = true) (hr : (Region.ready md ops listed).contains i = true)
    (hQ : ∀ c a w, Q (.panic c) (a.put oi.dst v) w → Q (.panic c) a w) (hw : Region.wanted oi (yielded ops a.tmps) = true) (hy : ∀ w, S w → (execOp a.eval oi).run P w = .ok (.value v) w) (hS : S w)
    (h : wpAnyH P md ops Q S fuel (listed.setIfInBounds i true) (a.put oi.dst v) w) : wpAnyH P md ops Q S (fuel + 1) listed a w :=
  wpAnyH_take (drop_atS hl) hs hf hr hQ (Or.inl ⟨hw, hy⟩) hS h
theorem AllReadyH.consS {fuel : Nat} {listed : Array Bool} {a : Act} {w : World} {i : Nat} {o : Oper} {rest : List Oper} {rs : List Nat} (hl : ops.toList.drop i = o :: rest)
    (h : ∀ K' : Act → World → Prop, Shut (∀ a w, S w → (S w → wpAnyH P md ops Q S fuel (listed.setIfInBounds i true) a w) → K' a w) → if Region.wanted o (yielded ops a.tmps) = true then Oper.wp P o a w K' Q else K' (a.put o.dst undef) w)
    (hs : AllReadyH P md ops Q S fuel listed a w rs) : AllReadyH P md ops Q S fuel listed a w (i :: rs) := AllReadyH.cons (drop_atS hl) h hs
end
theorem leaves_sameS {P : Program} {fn : Func} {t1 t2 : Array Value} {R : Ending → World → Prop} (hr : results fn t1 = results fn t2) : ∀ (ds : List Deferred) (u : FrameMode) (w : World), Leaves P fn t1 R ds u w → Leaves P fn t2 R ds u w
  | [], .returning, w, h => by
    obtain ⟨v, h1, h2⟩ := h
    exact ⟨v, by rw [← hr]; exact h1, h2⟩
  | [], .panicking _, _, h => h
  | [], .run, _, h => h
  | d :: ds, u, w, h => by
    obtain ⟨h1, fv, cap, f, args, h2, h3, h4⟩ := h
    refine ⟨h1, fv, cap, f, args, h2, h3, h4.mono ?_⟩
    rintro e u' w' he
    cases e with
    | returned v => exact leaves_sameS hr ds _ _ he
    | panicked c => exact leaves_sameS hr ds _ _ he
    | outgrown => exact he
theorem panic_putS {fn : Func} {k : Nat} (hf : fn.results = #[.tmp k]) {R : Ending → World → Prop} (d : Nat) (v : Value) (hd : d ≠ k) (c : List PanicEntry) (a : Act) (w : World) (h : bodyPostD Tryd.prog fn R (.panic c) (a.put (some d) v) w) : bodyPostD Tryd.prog fn R (.panic c) a w :=
  leaves_sameS (t1 := a.tmps.setIfInBounds d v) (by
    have e : (a.tmps.setIfInBounds d v)[k]? = a.tmps[k]? := Array.getElem?_setIfInBounds_ne hd
    simp [results, hf, e]) _ _ _ h

set_option maxRecDepth 100000 in
set_option maxHeartbeats 2000000 in
theorem letX (R : Nat) (T : ByteArray) (f j l : Nat) (w : World) (hE : EC R T f) (hR : RdAt w R T j l) (hl : l ≤ 64) (r : Res Tr) (hr : r = (pEnter (by' T) 5 j l).bind fun _ a0 => (pName (by' T) a0).bind fun nm a1 => (pTake (by' T) 14 a1).bind fun _ a2 => (pExpr (by' T) f a2 (l + 1)).bind fun x a3 => (pTake (by' T) 13 a3).bind fun _ a4 => (pExpr (by' T) f a4 (l + 1)).bind fun y a5 => .ok (.node 9 nm.1 nm.2 0 [x, y]) a5) (hro : r ≠ .out) :
    Calls Tryd.prog 55 #[.pointer (some ⟨R, 0, none⟩)] w (Rx w R T l l (VX w.heap.size) r) := by
  have HT := hid (enterX R T j l 5 w hR hl)
  have hlt := hR.lt
  have HE := hid hE
  have HR := hid hr
  have HRO := hid hro
  clear hR hr hro hE
  go_enter_defers Tryd.func55, Tryd.ntmps55
  go_wp2_with fail
  refine HT.out.mono ?_
  intro e w0 he
  cases hp : pEnter (by' T) 5 j l with
  | out => exact absurd hp pEnter_out
  | bad er at' =>
    rw [hp] at he
    obtain ⟨h1, rfl, h2⟩ := he
    have hr2 := HR.out
    rw [hp] at hr2
    subst hr2
    exact ⟨h1, rfl, h2⟩
  | ok u a0 =>
    rw [hp] at he
    obtain ⟨h1, v, rfl, rfl, h2⟩ := he
    have hl64 : l + 1 ≤ 64 := by have := (pEnter_ok hp).2.2; omega
    have hr2 := HR.out
    rw [hp] at hr2
    simp only [Res.bind] at hr2
    have HF0 := hid h1
    have HD0 := hid h2
    have HR0 := hid hr2
    clear h1 h2 hp HT HR hr2
    have HT := hid (nameX R T a0 (l + 1) w0 HD0.out)
    go_wp2_with fail
    refine HT.out.mono ?_
    intro e w1 he
    have hr2 := HR0.out
    cases ht : pName (by' T) a0 with
    | out => exact absurd ht pName_out
    | bad er at' =>
      rw [ht] at he hr2
      obtain ⟨h5, rfl, j3, h6⟩ := he
      (try simp only at hr2)
      subst hr2
      refine leave_pnc h6 hl ?_
      exact ⟨(HF0.out.trans h5).set 4 _, rfl, j3, h6.level l⟩
    | ok nm a1 =>
      rw [ht] at he hr2
      obtain ⟨h5, v, rfl, rfl, h6⟩ := he
      (try simp only at hr2)
      have hbN : Below w1.heap.size w1 (w1.alloc (.cells #[.string (bs nm.1), .int .i64 (nm.2 : Int)] 36)) := (Below.refl _ _).alloc (Nat.le_refl _) _
      have HF1 := hid ((HF0.out.trans h5).more hbN hlt)
      have HD1 := hid (h6.below hbN)
      have HR1 := hid hr2
      have hn1 : (w1.alloc (.cells #[.string (bs nm.1), .int .i64 (nm.2 : Int)] 36)).heap[w1.heap.size]? = some (.cells #[.string (bs nm.1), .int .i64 (nm.2 : Int)] 36 (0, 0)) := heap_alloc_new w1 _
      obtain ⟨N, hN⟩ : ∃ N, N = w1.heap.size := ⟨_, rfl⟩
      have hNR : N ≠ R := by have := h6.lt; omega
      obtain ⟨W1, hW1⟩ : ∃ W1, W1 = w1.alloc (.cells #[.string (bs nm.1), .int .i64 (nm.2 : Int)] 36) := ⟨_, rfl⟩
      rw [← hW1] at HF1 HD1 hn1
      rw [← hN] at hn1
      have HN1 := hid hn1
      have HNR := hid hNR
      obtain ⟨s, hs⟩ : ∃ s, s = bs nm.1 := ⟨_, rfl⟩
      have HS := hid hs
      rw [← hs] at hW1 HN1
      clear h5 h6 hr2 ht HF0 HD0 HR0 HT hbN hn1 hNR
      have HT := hid (takeX R T a1 (l + 1) 14 W1 HD1.out)
      unfold namv
      rw [← hs]
      clear hs
      replace hW1 := hW1.symm
      replace hN := hN.symm
      go_wp2_with fail
      clear hW1 hN
      refine HT.out.mono ?_
      intro e w2 he
      have hr2 := HR1.out
      cases ht : pTake (by' T) 14 a1 with
      | out => exact absurd ht pTake_out
      | bad er at' =>
        rw [ht] at he hr2
        obtain ⟨h5, rfl, j3, h6⟩ := he
        (try simp only at hr2)
        subst hr2
        refine leave_pnc h6 hl ?_
        exact ⟨(HF1.out.trans h5).set 4 _, rfl, j3, h6.level l⟩
      | ok t2 a2 =>
        rw [ht] at he hr2
        obtain ⟨h5, v, rfl, rfl, h6⟩ := he
        (try simp only at hr2)
        have HF2 := hid (HF1.out.trans h5)
        have HD2 := hid h6
        have HR2 := hid hr2
        replace HN1 := hid ((h5.2 N (Array.getElem?_eq_some_iff.1 HN1.out).1 HNR.out).trans HN1.out)
        clear HT
        clear h5 h6 hr2 ht HF1 HD1 HR1
        have hr2 := HR2.out
        have hne : pExpr (by' T) f a2 (l + 1) ≠ .out := fun e => by rw [e] at hr2; exact HRO.out hr2
        have HC := hid (HE.out a2 (l + 1) w2 HD2.out hl64 hne)
        clear hr2
        go_wp2_with fail
        refine HC.out.mono ?_
        intro e w3 he
        have hr2 := HR2.out
        cases ht : pExpr (by' T) f a2 (l + 1) with
        | out => exact absurd ht hne
        | bad er at' =>
          rw [ht] at he hr2
          obtain ⟨h5, rfl, j3, h6⟩ := he
          (try simp only at hr2)
          subst hr2
          refine leave_pnc h6 hl ?_
          exact ⟨(HF2.out.trans h5).set 4 _, rfl, j3, h6.level l⟩
        | ok x a3 =>
          rw [ht] at he hr2
          obtain ⟨h5, v, rfl, hv, h6⟩ := he
          obtain ⟨qx, rfl⟩ := hv.form
          (try simp only at hr2)
          have HF3 := hid (HF2.out.trans h5)
          have HD3 := hid h6
          have HR3 := hid hr2
          have HVx := hid (hv.mono HF2.out.size : PT w.heap.size w3 x _)
          replace HN1 := hid ((h5.2 N (Array.getElem?_eq_some_iff.1 HN1.out).1 HNR.out).trans HN1.out)
          clear hv HC hne
          clear h5 h6 hr2 ht HF2 HD2 HR2
          have HT := hid (takeX R T a3 (l + 1) 13 w3 HD3.out)
          go_wp2_with fail
          refine HT.out.mono ?_
          intro e w4 he
          have hr2 := HR3.out
          cases ht : pTake (by' T) 13 a3 with
          | out => exact absurd ht pTake_out
          | bad er at' =>
            rw [ht] at he hr2
            obtain ⟨h5, rfl, j3, h6⟩ := he
            (try simp only at hr2)
            subst hr2
            refine leave_pnc h6 hl ?_
            exact ⟨(HF3.out.trans h5).set 4 _, rfl, j3, h6.level l⟩
          | ok t4 a4 =>
            rw [ht] at he hr2
            obtain ⟨h5, v, rfl, rfl, h6⟩ := he
            (try simp only at hr2)
            have HF4 := hid (HF3.out.trans h5)
            have HD4 := hid h6
            have HR4 := hid hr2
            replace HVx := hid (HVx.out.fr h5 hlt)
            replace HN1 := hid ((h5.2 N (Array.getElem?_eq_some_iff.1 HN1.out).1 HNR.out).trans HN1.out)
            clear HT
            clear h5 h6 hr2 ht HF3 HD3 HR3
            have hr2 := HR4.out
            have hne : pExpr (by' T) f a4 (l + 1) ≠ .out := fun e => by rw [e] at hr2; exact HRO.out hr2
            have HC := hid (HE.out a4 (l + 1) w4.drew HD4.out.drew hl64 hne)
            have hc0 : w4.drew.cell? ⟨N, 0, none⟩ = some (.string s) ∧ w4.drew.cell? ⟨N, 1, none⟩ = some (.int .i64 (nm.2 : Int)) := ⟨by show w4.cell? _ = _; simp [World.cell?, HN1.out], by show w4.cell? _ = _; simp [World.cell?, HN1.out]⟩
            clear hr2
            go_wp2_with fail
            refine wp_region_held_drew (S := (fun W => W.cell? ⟨N, 0, none⟩ = some (.string s) ∧ W.cell? ⟨N, 1, none⟩ = some (.int .i64 (nm.2 : Int)))) (by kernel_rfl) hc0 (fun hHeld => ?_)
            refine wpAnyH_takeS (i := 0) (v := .agg #[.string s, .int .i64 (nm.2 : Int)]) rfl (by kernel_rfl) (by kernel_rfl) (by kernel_rfl) (fun c a w h => panic_putS rfl 16 _ (by decide) c a w h) (by rfl) (fun W hC => by (obtain ⟨k0, k1⟩ := hC); go_simp) hHeld ?_
            simp only [Act.put, List.setIfInBounds_toArray, List.set_cons_zero, List.set_cons_succ]
            refine wpAnyH_takeS (i := 1) (v := .pointer (some ⟨qx, 0, none⟩)) rfl (by kernel_rfl) (by kernel_rfl) (by kernel_rfl) (fun c a w h => panic_putS rfl 17 _ (by decide) c a w h) (by rfl) (fun W hC => by go_simp) hHeld ?_
            simp only [Act.put, List.setIfInBounds_toArray, List.set_cons_zero, List.set_cons_succ]
            refine wpAnyH_takeS (i := 2) (v := .pointer (some ⟨R, 0, none⟩)) rfl (by kernel_rfl) (by kernel_rfl) (by kernel_rfl) (fun c a w h => panic_putS rfl 18 _ (by decide) c a w h) (by rfl) (fun W hC => by go_simp) hHeld ?_
            simp only [Act.put, List.setIfInBounds_toArray, List.set_cons_zero, List.set_cons_succ]
            refine wpAnyH_ready (rs := [3]) (by kernel_rfl) (by simp) ?_
            refine AllReadyH.consS rfl (fun K hK => ?_) AllReadyH.nil
            go_simp
            refine HC.out.mono ?_
            intro e w5 he
            have hr2 := HR4.out
            cases ht : pExpr (by' T) f a4 (l + 1) with
            | out => exact absurd ht hne
            | bad er at' =>
              rw [ht] at he hr2
              obtain ⟨h5, rfl, j3, h6⟩ := he
              (try simp only at hr2)
              subst hr2
              refine leave_pnc h6 hl ?_
              exact ⟨((HF4.out.drew).trans h5).set 4 _, rfl, j3, h6.level l⟩
            | ok y a5 =>
              rw [ht] at he hr2
              obtain ⟨h5, v, rfl, hv, h6⟩ := he
              obtain ⟨qy, rfl⟩ := hv.form
              (try simp only at hr2)
              have HF5 := hid (HF4.out.drew.trans h5)
              have HD5 := hid h6
              have HR5 := hid hr2
              have HVy := hid (hv.mono HF4.out.size : PT w.heap.size w5 y _)
              replace HVx := hid ((show PT w.heap.size w4.drew x _ from HVx.out.below ((Below.refl _ _).drew)).fr h5 hlt)
              have hn5 : w5.heap[N]? = some (.cells #[.string s, .int .i64 (nm.2 : Int)] 36 (0, 0)) := (h5.2 N (Array.getElem?_eq_some_iff.1 HN1.out).1 HNR.out).trans HN1.out
              have hc5 : w5.cell? ⟨N, 0, none⟩ = some (.string s) ∧ w5.cell? ⟨N, 1, none⟩ = some (.int .i64 (nm.2 : Int)) := ⟨by simp [World.cell?, hn5], by simp [World.cell?, hn5]⟩
              have hlN : N < w5.heap.size := (Array.getElem?_eq_some_iff.1 hn5).1
              have HKB : Hid (∀ W, Below w5.heap.size w5 W → W.cell? ⟨N, 0, none⟩ = some (.string s) ∧ W.cell? ⟨N, 1, none⟩ = some (.int .i64 (nm.2 : Int))) := fun W h => ⟨(h.cell (p := ⟨N, 0, none⟩) hlN).trans hc5.1, (h.cell (p := ⟨N, 1, none⟩) hlN).trans hc5.2⟩
              clear hv hr2 ht h5 h6
              refine hK.out _ _ hc5 (fun hHeld => ?_)
              clear hK K hHeld
              have hHeld := hc5
              refine wpAnyH_ready (rs := [4]) (by kernel_rfl) (by simp) ?_
              refine AllReadyH.consS rfl (fun K hK => ?_) AllReadyH.nil
              go_simp
              refine hK.out _ _ (HKB.out _ ((Below.refl _ _).alloc (Nat.le_refl _) _)) (fun hHeld => ?_)
              clear hK K hHeld
              refine wpAnyH_ready (rs := [5]) (by kernel_rfl) (by simp) ?_
              refine AllReadyH.consS rfl (fun K hK => ?_) AllReadyH.nil
              go_simp
              refine hK.out _ _ (HKB.out _ ((Below.refl _ _).alloc (Nat.le_refl _) _)) (fun hHeld => ?_)
              clear hK K hHeld
              refine wpAnyH_ready (rs := [6]) (by kernel_rfl) (by simp) ?_
              refine AllReadyH.consS rfl (fun K hK => ?_) AllReadyH.nil
              go_simp
              have hb5 : Below w5.heap.size w5 ((w5.alloc (.cells #[.pointer (some ⟨qx, 0, none⟩), .pointer (some ⟨qy, 0, none⟩)] 38)).alloc (.cells #[.int .i64 9, .string s, .int .i64 (nm.2 : Int), .int .i64 0, .slice (some ⟨w5.heap.size, 0, none⟩) 2 2] 84)) := ((Below.refl _ _).alloc (Nat.le_refl _) _).alloc (by simp) _
              refine hK.out _ _ (HKB.out _ hb5) (fun hHeld => ?_)
              clear hK K hHeld
              refine wpAnyH_ready (rs := [7]) (by kernel_rfl) (by simp) ?_
              refine AllReadyH.consS rfl (fun K hK => ?_) AllReadyH.nil
              go_simp
              refine hK.out _ _ (HKB.out _ hb5) (fun hHeld => ?_)
              clear hK K hHeld
              refine wpAnyH_done (by kernel_rfl) ?_ _
              have HB5 := hid hb5
              have hpt := PT_new (k := 9) (lo := w.heap.size) [x, y] [.pointer (some ⟨qx, 0, none⟩), .pointer (some ⟨qy, 0, none⟩)] w5 (by simp) (by have := HF5.out.size; omega) (fun i t v ht hv => by
                match i, ht, hv with
                | 0, ht, hv => simp at ht hv; subst ht hv; exact HVx.out
                | 1, ht, hv => simp at ht hv; subst ht hv; exact HVy.out
                | n + 2, ht, hv => simp at ht) nm.1 nm.2
              rw [← HS.out] at hpt
              have HPT := hid hpt
              clear hb5 hpt hc5 hHeld
              obtain ⟨W6, hW6⟩ : ∃ W6, W6 = (w5.alloc (.cells #[.pointer (some ⟨qx, 0, none⟩), .pointer (some ⟨qy, 0, none⟩)] 38)).alloc (.cells #[.int .i64 9, .string s, .int .i64 (nm.2 : Int), .int .i64 0, .slice (some ⟨w5.heap.size, 0, none⟩) 2 2] 84) := ⟨_, rfl⟩
              have HPT2 : Hid (PT w.heap.size W6 (.node 9 nm.1 nm.2 0 [x, y]) (.pointer (some ⟨w5.heap.size + 1, 0, none⟩))) := by unfold Hid; rw [hW6]; exact HPT.out
              rw [← hW6] at HB5 ⊢
              clear hW6 HPT
              go_wp2_with fail
              have hr3 := HR5.out
              subst hr3
              refine leave_ret (HD5.out.below HB5.out) hl (results_tmp rfl _ _ _) ?_
              exact ⟨(HF5.out.more HB5.out hlt).set 4 _, _, rfl, HPT2.out.fr ((Fr.refl R _).set 4 _) hlt, (HD5.out.below HB5.out).level l⟩

end Go.Proofs.YthpkcageimhgaaaDoor
