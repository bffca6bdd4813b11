/- Package whole: the reference's reader: Openings. Package whole: what Read defers. -/
import Derived.Test.YtcajofdmadpmoaaDoorWbW
import Derived.Test.YtcajofdmadpmoaaDoorWbH
import Derived.Defers
import Derived.Recover
namespace Go.Proofs.YtcajofdmadpmoaaDoor
open Go.RowKit

/-- what was read, and where the reader stands -/
def Rl {α : Type} (o : Option (α × List Nat)) (s' : Option (List Nat)) (x : α) : Prop := s' = o.map (·.2) ∧ ∀ y r, o = some (y, r) → x = y
theorem Rl.pair {α β : Type} {p : Rdr α} {q : Rdr β} {s s1 s2 : Option (List Nat)} {x : α} {y : β} (h1 : Rl (s.bind p) s1 x) (h2 : Rl (s1.bind q) s2 y) : Rl (s.bind (rdT p q)) s2 (x, y) := by
  obtain ⟨e1, f1⟩ := h1
  obtain ⟨e2, f2⟩ := h2
  cases s with
  | none => subst e1; exact ⟨e2, fun _ _ e => by cases e⟩
  | some bs =>
    have hb : (some bs).bind (rdT p q) = rdT p q bs := rfl
    have hp : (some bs).bind p = p bs := rfl
    rw [hb]
    rw [hp] at e1 f1
    unfold rdT
    cases hc : p bs with
    | none => rw [hc] at e1; subst e1; exact ⟨e2, fun _ _ e => by cases e⟩
    | some z =>
      obtain ⟨z, r⟩ := z
      have hx := f1 z r hc
      rw [hc] at e1
      have e1' : s1 = some r := e1
      subst e1'
      have hq : (some r).bind q = q r := rfl
      rw [hq] at e2 f2
      subst hx
      show Rl (match q r with | some (y, r') => some ((x, y), r') | none => none) s2 (x, y)
      cases hd : q r with
      | none => rw [hd] at e2; exact ⟨e2, fun _ _ e => by cases e⟩
      | some u =>
        obtain ⟨u, r'⟩ := u
        have hy := f2 u r' hd
        subst hy
        rw [hd] at e2
        exact ⟨e2, fun y' r2 e => by injection e with e; injection e with e _⟩
theorem Rl.on {s s' : Option (List Nat)} {a : List Int} {b c : List (List Int)} (h : Rl (s.bind (rdT (rdL rdI) (rdT (rdL (rdL rdI)) (rdL (rdL rdI))))) s' (a, b, c)) : Rl (s.bind rdO) s' ⟨a, b, c⟩ := by
  obtain ⟨e, f⟩ := h
  cases s with
  | none => exact ⟨e, fun _ _ e => by cases e⟩
  | some bs =>
    have hb : (some bs).bind rdO = rdO bs := rfl
    have hp : (some bs).bind (rdT (rdL rdI) (rdT (rdL (rdL rdI)) (rdL (rdL rdI)))) = (rdT (rdL rdI) (rdT (rdL (rdL rdI)) (rdL (rdL rdI)))) bs := rfl
    rw [hb]
    rw [hp] at e f
    unfold rdO
    cases hc : (rdT (rdL rdI) (rdT (rdL (rdL rdI)) (rdL (rdL rdI)))) bs with
    | none => rw [hc] at e; exact ⟨e, fun _ _ e => by cases e⟩
    | some z =>
      obtain ⟨⟨a', b', c'⟩, r⟩ := z
      have := f _ _ hc
      injection this with h1 h2
      injection h2 with h2 h3
      subst h1 h2 h3
      rw [hc] at e
      exact ⟨e, fun y' r2 e => by injection e with e; injection e with e _⟩
theorem RfE.rl {α : Type} {P : World → Value → α → Prop} {Z0 : Nat} {full : List Nat} {R : Nat} {w : World} {o : Option (α × List Nat)} {e : Ending} {w' : World} (h : RfE P Z0 full R w o e w') : w.grownBy w' (some R) ∧ ∃ v x s', e = .returned v ∧ P w' v x ∧ RF Z0 full w' R s' ∧ Rl o s' x := by
  obtain ⟨h1, v, x, h2, h3, h4, h5⟩ := h
  exact ⟨h1, v, x, _, h2, h3, h4, rfl, h5⟩

/-- what stands in opening, beside its result -/
structure OnF (R O P : Nat) (w W : World) (v1 v2 v3 : Value) : Prop where
  s : OnS R O w W v1 v2 v3
  p : W.heap[P]? = some (.cells #[.slice none 0 0, .slice none 0 0, .slice none 0 0] 28 (0, 0))
  hP : w.heap.size ≤ P
  hne : P ≠ O
section
variable {R O P : Nat} {w W W' : World} {v1 v2 v3 : Value}
theorem OnF.step (h : OnF R O P w W v1 v2 v3) (e : W.grownBy W' (some R)) : OnF R O P w W' v1 v2 v3 :=
  ⟨h.s.step e, (gb_blk e (Array.getElem?_eq_some_iff.1 h.p).1 (by have := h.hP; have := h.s.hR; omega)).trans h.p, h.hP, h.hne⟩
theorem OnF.set0 (h : OnF R O P w W v1 v2 v3) (x : Value) : OnF R O P w (W.setCell ⟨O, 0, none⟩ x) x v2 v3 := ⟨h.s.set0 x, (Below.heap_setCell _ _ _ _ h.hne).trans h.p, h.hP, h.hne⟩
theorem OnF.set1 (h : OnF R O P w W v1 v2 v3) (x : Value) : OnF R O P w (W.setCell ⟨O, 1, none⟩ x) v1 x v3 := ⟨h.s.set1 x, (Below.heap_setCell _ _ _ _ h.hne).trans h.p, h.hP, h.hne⟩
theorem OnF.set2 (h : OnF R O P w W v1 v2 v3) (x : Value) : OnF R O P w (W.setCell ⟨O, 2, none⟩ x) v1 v2 x := ⟨h.s.set2 x, (Below.heap_setCell _ _ _ _ h.hne).trans h.p, h.hP, h.hne⟩
theorem OnF.rf (h : OnF R O P w W v1 v2 v3) {Z0 : Nat} {full : List Nat} {s : Option (List Nat)} (hr : RF Z0 full W R s) (i : Nat) (x : Value) : RF Z0 full (W.setCell ⟨O, i, none⟩ x) R s :=
  hr.blocks (fun b hb => Below.heap_setCell _ _ _ _ (by show b ≠ O; have := h.s.hO; have := h.s.hR; omega))
end

set_option maxRecDepth 100000 in
set_option maxHeartbeats 4000000 in
theorem rfopening_any (Z0 : Nat) (full : List Nat) (R : Nat) (s : Option (List Nat)) (w : World) (h : RF Z0 full w R s) : Calls Tryd.prog 29 #[.pointer (some ⟨R, 0, none⟩)] w (RfE POn Z0 full R w (s.bind rdO)) := by
  have hRl := h.lt
  obtain ⟨P, hP⟩ : ∃ P, P = w.heap.size := ⟨_, rfl⟩
  obtain ⟨O, hO⟩ : ∃ O, O = P + 1 := ⟨_, rfl⟩
  obtain ⟨V0, hV0⟩ : ∃ W0, W0 = w.alloc (.cells #[.slice none 0 0, .slice none 0 0, .slice none 0 0] 28) := ⟨_, rfl⟩
  obtain ⟨W0, hW0⟩ : ∃ W0, W0 = V0.alloc (.cells #[.slice none 0 0, .slice none 0 0, .slice none 0 0] 28) := ⟨_, rfl⟩
  have hvs : V0.heap.size = O := by rw [hV0, hO, hP]; simp
  have hb0 : Below w.heap.size w V0 := by rw [hV0]; exact (Below.refl _ _).alloc (Nat.le_refl _) _
  have hb1 : Below V0.heap.size V0 W0 := by rw [hW0]; exact (Below.refl _ _).alloc (Nat.le_refl _) _
  have hp0 : V0.heap[P]? = some (.cells #[.slice none 0 0, .slice none 0 0, .slice none 0 0] 28 (0, 0)) := by rw [hV0, hP]; exact heap_alloc_new w _
  have ho0 : W0.heap[O]? = some (.cells #[.slice none 0 0, .slice none 0 0, .slice none 0 0] 28 (0, 0)) := by rw [← hvs, hW0]; exact heap_alloc_new V0 _
  have hbb := hb0.trans (hb1.mono hb0.size)
  have hs0 : OnF R O P w W0 (.slice none 0 0) (.slice none 0 0) (.slice none 0 0) := ⟨⟨ho0, gb_below hbb, by omega, hRl⟩, (hb1.block P (by omega)).trans hp0, by omega, by omega⟩
  have HC := hid (rfnums_any Z0 full R s W0 (h.below hbb))
  have HS := hid hs0
  have HV0 := hid hV0
  have HW0 := hid hW0
  have HPE : Hid (w.heap.size = P) := hP.symm
  have HOE : Hid (P + 1 = O) := hO.symm
  obtain ⟨T, hT⟩ : ∃ T, T = s.bind rdO := ⟨_, rfl⟩
  rw [← hT]
  have HT := hid hT
  have HR := hid (h.below hbb)
  clear h hb0 hb1 hbb hs0 hW0 hV0 hP hO hT hp0 ho0 hvs hRl
  go_enter Tryd.func29, Tryd.ntmps29
  go_wp2_with fail
  rw [← HV0.out, ← HW0.out, HPE.out, HOE.out]
  refine HC.out.mono ?_
  rintro e w1 he
  obtain ⟨hg, v0, x0, s1, rfl, hs, h1, hx⟩ := he.rl
  have hs' : SlI w1 x0 v0 := hs
  have hq := hs'
  obtain ⟨a0, k0, e0, _⟩ := hq
  obtain ⟨n0, hn0⟩ : ∃ n0, n0 = x0.length := ⟨_, rfl⟩
  rw [← hn0] at e0
  subst e0
  have S0 := HS.out.step hg
  have y0 := S0.s.c0
  have f0 := S0.s.fz 0
  have hki := S0.s.ki 0 (.slice a0 n0 k0)
  have HL0 : Hid (SlI (w1.setCell ⟨O, 0, none⟩ (.slice a0 n0 k0)) x0 (.slice a0 n0 k0)) := hs'.ki hki
  have HX0 := hid hx
  have HS1 := hid (S0.set0 (.slice a0 n0 k0))
  have hr1 := S0.rf h1 0 (.slice a0 n0 k0)
  have HC1 := hid (rfrows_any Z0 full R s1 _ hr1)
  have HR1 := hid hr1
  clear HC HR HS S0 hki hs hs' he hg h1 hx hr1 hn0 HV0 HW0
  go_wp2_with fail
  refine HC1.out.mono ?_
  rintro e w2 he
  obtain ⟨hg, v1, x1, s2, rfl, hs, h1, hx⟩ := he.rl
  have hs' : OwnI 0 w2 v1 x1 := hs
  obtain ⟨a1, k1, e1, _⟩ := hs'.lst
  obtain ⟨n1, hn1⟩ : ∃ n1, n1 = x1.length := ⟨_, rfl⟩
  rw [← hn1] at e1
  subst e1
  have S0 := HS1.out.step hg
  clear y0 f0
  have y0 := S0.s.c1
  have f0 := S0.s.fz 1
  have hki := S0.s.ki 1 (.slice a1 n1 k1)
  have hk := (rf_ko HR1.out hg).1
  have HL1 := hid ((HL0.out.ki hk).ki hki)
  have HB1 : Hid (OwnI 0 (w2.setCell ⟨O, 1, none⟩ (.slice a1 n1 k1)) (.slice a1 n1 k1) x1) := hs'.ki hki
  have HX1 := hid hx
  have HS2 := hid (S0.set1 (.slice a1 n1 k1))
  have hr1 := S0.rf h1 1 (.slice a1 n1 k1)
  have HC2 := hid (rfrows_any Z0 full R s2 _ hr1)
  have HR2 := hid hr1
  clear HC1 HR1 HS1 S0 hki hk hs hs' he hg h1 hx hr1 hn1 HL0
  go_wp2_with fail
  refine HC2.out.mono ?_
  rintro e w3 he
  obtain ⟨hg, v2, x2, s3, rfl, hs, h1, hx⟩ := he.rl
  have hs' : OwnI 0 w3 v2 x2 := hs
  obtain ⟨a2, k2, e2, _⟩ := hs'.lst
  obtain ⟨n2, hn2⟩ : ∃ n2, n2 = x2.length := ⟨_, rfl⟩
  rw [← hn2] at e2
  subst e2
  have S0 := HS2.out.step hg
  clear y0 f0
  have y0 := S0.s.c2
  have f0 := S0.s.fz 2
  have hki := S0.s.ki 2 (.slice a2 n2 k2)
  have hk := (rf_ko HR2.out hg).1
  have S1 := S0.set2 (.slice a2 n2 k2)
  obtain ⟨W4, hW4⟩ : ∃ W4, W4 = w3.setCell ⟨O, 2, none⟩ (.slice a2 n2 k2) := ⟨_, rfl⟩
  rw [← hW4] at S1 hki
  have hr1 := S0.rf h1 2 (.slice a2 n2 k2)
  rw [← hW4] at hr1
  have HF := hid (And.intro S1 (And.intro ((HL1.out.ki hk).ki hki) (And.intro ((HB1.out.ki hk).ki hki) (And.intro (hs'.ki hki) hr1))))
  have HXX : Hid (Rl T s3 ⟨x0, x1, x2⟩) := by unfold Hid; rw [HT.out]; exact Rl.on (HX0.out.pair (HX1.out.pair hx))
  have HW4 := hid hW4
  have z0 := S1.s.c0
  have z1 := S1.s.c1
  have z2 := S1.s.c2
  have hpp := S1.p
  obtain ⟨W5, hW5⟩ : ∃ W5, W5 = W4.setRow P #[.slice a0 n0 k0, .slice a1 n1 k1, .slice a2 n2 k2] := ⟨_, rfl⟩
  have HW5 := hid hW5
  have HP5 : Hid (W5.heap[P]? = some (.cells #[.slice a0 n0 k0, .slice a1 n1 k1, .slice a2 n2 k2] 28 (0, 0))) := by unfold Hid; rw [hW5]; exact setRow_heap _ _ _ _ _ _ hpp
  have hK : KI W4 W5 := by
    rw [hW5]
    refine KI.notO (by simp) (fun b c t f hb ht => setRow_other _ _ _ _ ?_)
    rintro rfl
    rw [hpp] at hb
    injection hb with hb
    injection hb with _ h3 _
    exact ht h3.symm
  have HE : Hid (RfE POn Z0 full R w T (.returned (.agg #[.slice a0 n0 k0, .slice a1 n1 k1, .slice a2 n2 k2])) W5) := by
    refine ⟨gb_bel HF.out.1.s.g (by rw [hW5]; exact below_setRow (Below.refl _ _) HF.out.1.hP _), _, ⟨x0, x1, x2⟩, rfl, ⟨_, _, _, rfl, HF.out.2.1.ki hK, HF.out.2.2.1.ki hK, HF.out.2.2.2.1.ki hK⟩, ?_, HXX.out.2⟩
    rw [← HXX.out.1, hW5]
    exact HF.out.2.2.2.2.blocks (fun b hb => setRow_other _ _ _ _ (by have := HF.out.1.hP; have := HF.out.1.s.hR; omega))
  clear hg hs hs' h1 hx he HC2 HR2 HS2 S0 S1 hki hk hr1 hn2 HX0 HX1 HXX HL1 HB1 hW4 hW5 hK
  go_wp2_with (first | (rw [← HW4.out]; refine wpList_load_row rfl 28 _ rfl O rfl _ _ _ _ HF.out.1.s.o Tryd.underlying28 rfl (by kernel_rfl) ?_) | refine wpList_store_row rfl 28 _ _ rfl P #[.slice a0 n0 k0, .slice a1 n1 k1, .slice a2 n2 k2] rfl rfl _ _ hpp (by kernel_rfl) rfl (by simp [Value.oneCell']) ?_)
  rw [← HW5.out]
  refine bodyPost_ret (results_cell_row rfl _ _ P 28 _ (0, 0) _ rfl HP5.out Tryd.underlying28 rfl (by kernel_rfl)) rfl ?_
  exact HE.out

end Go.Proofs.YtcajofdmadpmoaaDoor

namespace Go.Proofs.YtcajofdmadpmoaaDoor
open Go.RowKit

theorem fr13 (a b v : Value) : (#[a, b] ++ (Array.replicate 11 undef).setIfInBounds 3 v : Array Value) = #[a, b, undef, undef, undef, v, undef, undef, undef, undef, undef, undef, undef] := by kernel_rfl
theorem eqW_nil (w : World) : (binOp BinOp.eql 20 .nilIface .nilIface).run Tryd.prog w = .ok (.bool true) w := by kernel_rfl
theorem neW_nil (T : TypeId) (v : Value) (w : World) : (binOp BinOp.eql 20 (.iface T v) .nilIface).run Tryd.prog w = .ok (.bool false) w := by kernel_rfl
theorem taW (w : World) : (Instr.typeAssert (.iface 55 (.agg #[])) 20 55 true).run Tryd.prog w = .ok (.tuple #[.agg #[], .bool true]) w := by kernel_rfl
/-- no voucher at all -/
def zvo : List Value := [.slice none 0 0, .slice none 0 0, .int .i64 0, .slice none 0 0, .slice none 0 0, .slice none 0 0, .slice none 0 0, .slice none 0 0, .slice none 0 0, .slice none 0 0, .slice none 0 0, .slice none 0 0]

set_option maxRecDepth 100000 in
set_option maxHeartbeats 400000 in
theorem catchW_idle (p q : Addr) (w : World) :
    CallsD Tryd.prog 19 #[.pointer (some p), .pointer (some q)] .returning w fun e u' w' => e = .returned (.tuple #[]) ∧ u' = .returning ∧ w' = w := by
  refine callsD_of_wpS Tryd.func19 rfl fun c₀ cs hu => ?_
  have hnil := eqW_nil
  apply wpS_seq
  apply wpS_region
  simp [wpOpsS, go_sem, recoverD, hu, Tryd.ntmps19, Exit.thenS]
  rw [fr13]
  refine wpS_of_wp ?_
  go_wp2_with fail
  cases c₀
  simp_all [bodyPostS, results, Tryd.results19]

set_option maxRecDepth 100000 in
set_option maxHeartbeats 4000000 in
theorem catchW_fault (P Q : Nat) (l : List Value) (b : Value) (w : World) (h1 : w.heap[P]? = some (.cells l.toArray 30 (0, 0))) (hl : l.length = 12) (h2 : w.heap[Q]? = some (.cells #[b] 34 (0, 0))) (hPQ : P ≠ Q) :
    CallsD Tryd.prog 19 #[.pointer (some ⟨P, 0, none⟩), .pointer (some ⟨Q, 0, none⟩)] (.panicking [{ v := .iface 55 (.agg #[]), recovered := false }]) w fun e u' w' => e = .returned (.tuple #[]) ∧ u' = .panicking [{ v := .iface 55 (.agg #[]), recovered := true }] ∧
      ∃ W0, Below w.heap.size w W0 ∧ w' = (W0.setRow P zvo.toArray).setCell ⟨Q, 0, none⟩ (.iface 56 (.int .i64 5)) := by
  refine callsD_of_wpS Tryd.func19 rfl fun c₀ cs hu => ?_
  have hnil := neW_nil
  have hta := taW
  apply wpS_seq
  apply wpS_region
  simp [wpOpsS, go_sem, recoverD, hu, Tryd.ntmps19, Exit.thenS]
  rw [fr13]
  refine wpS_of_wp ?_
  have HL := hid hl
  have hP := (Array.getElem?_eq_some_iff.1 h1).1
  have hQ := (Array.getElem?_eq_some_iff.1 h2).1
  obtain ⟨W0, hW0⟩ : ∃ W0, W0 = w.alloc (.cells #[] 55) := ⟨_, rfl⟩
  have hb0 : Below w.heap.size w W0 := by rw [hW0]; exact (Below.refl _ _).alloc (Nat.le_refl _) _
  have HP0 := hid ((hb0.block P hP).trans h1)
  have q0 : (W0.setRow P zvo.toArray).cell? ⟨Q, 0, none⟩ = some b := by
    rw [World.cell?_of_block (w := W0) (a := ⟨Q, 0, none⟩) (setRow_other _ _ _ _ (Ne.symm hPQ))]
    have := (hb0.block Q hQ).trans h2
    simp [World.cell?, this]
  have q1 : (W0.setRow P zvo.toArray).frozen? ⟨Q, 0, none⟩ = false := by
    have := (hb0.block Q hQ).trans h2
    rw [← setRow_other W0 P Q zvo.toArray (Ne.symm hPQ)] at this
    simp [World.frozen?, this]
  obtain ⟨V, hV⟩ : ∃ V, V = W0.setRow P zvo.toArray := ⟨_, rfl⟩
  rw [← hV] at q0 q1
  have HE : Hid (∃ W1, Below w.heap.size w W1 ∧ V.setCell ⟨Q, 0, none⟩ (.iface 56 (.int .i64 5)) = (W1.setRow P zvo.toArray).setCell ⟨Q, 0, none⟩ (.iface 56 (.int .i64 5))) := ⟨W0, hb0, by rw [hV]⟩
  have HW0 := hid hW0
  have HV := hid hV
  clear hl h1 h2 hP hQ hPQ hb0 hW0 hV
  go_wp2_with (refine wpList_store_row rfl 30 _ _ rfl P zvo.toArray rfl rfl _ _ (by rw [← HW0.out]; exact HP0.out) (by kernel_rfl) (by rw [List.size_toArray, HL.out]; rfl) (by simp [zvo, Value.oneCell']) ?_; rw [← HW0.out, ← HV.out])
  simp [bodyPostS, results, Tryd.results19]
  exact HE.out

end Go.Proofs.YtcajofdmadpmoaaDoor
