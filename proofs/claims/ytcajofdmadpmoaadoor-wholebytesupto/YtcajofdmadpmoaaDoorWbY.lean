/- Package whole: the reference's Read. -/
import Derived.Test.YtcajofdmadpmoaaDoorWbAM
import Derived.Test.YtcajofdmadpmoaaDoorWbJ
namespace Go.Proofs.YtcajofdmadpmoaaDoor
open Go.RowKit

/-- what stands in Read: the result, the voucher, the reader -/
structure VcF (P O R : Nat) (w W : World) (l : List Value) : Prop where
  o : W.heap[O]? = some (.cells l.toArray 30 (0, 0))
  p : W.heap[P]? = some (.cells zvo.toArray 30 (0, 0))
  b : Below P w W
  hO : O = P + 1
  hR : R = P + 2
section
variable {P O R : Nat} {w W W' : World} {l : List Value}
theorem VcF.step (h : VcF P O R w W l) (e : W.grownBy W' (some R)) : VcF P O R w W' l := by
  have h1 := (Array.getElem?_eq_some_iff.1 h.o).1
  have h2 := (Array.getElem?_eq_some_iff.1 h.p).1
  have h3 := h.hO
  have h4 := h.hR
  exact ⟨(gb_blk e h1 (by omega)).trans h.o, (gb_blk e h2 (by omega)).trans h.p, ⟨e.os.trans h.b.os, e.tape.trans h.b.tape, e.output.trans h.b.output, Nat.le_trans h.b.size e.size, fun x hx => (gb_blk e (by omega) (by omega)).trans (h.b.block x hx)⟩, h3, h4⟩
theorem VcF.set (h : VcF P O R w W l) (i : Nat) (x : Value) : VcF P O R w (W.setCell ⟨O, i, none⟩ x) (l.set i x) :=
  ⟨by have := set_atW h.o i x; rw [List.setIfInBounds_toArray] at this; exact this, (Below.heap_setCell _ _ _ _ (by show P ≠ O; have := h.hO; omega)).trans h.p, h.b.setCell (p := ⟨O, i, none⟩) (by show P ≤ O; have := h.hO; omega) x, h.hO, h.hR⟩
theorem VcF.ko (h : VcF P O R w W l) (i : Nat) (x : Value) : KO W (W.setCell ⟨O, i, none⟩ x) :=
  KO.oth h.o (by decide) (by decide) (by decide) (by simp [World.setCell]) (fun b _ hb => Below.heap_setCell _ _ _ _ hb)
theorem VcF.rf (h : VcF P O R w W l) {Z0 : Nat} {full : List Nat} {s : Option (List Nat)} (hz : Z0 ≤ P) (hr : RF Z0 full W R s) (i : Nat) (x : Value) : RF Z0 full (W.setCell ⟨O, i, none⟩ x) R s :=
  hr.two (fun b hb => Below.heap_setCell _ _ _ _ (by show b ≠ O; have := h.hO; omega)) (Below.heap_setCell _ _ _ _ (by show R ≠ O; have := h.hO; have := h.hR; omega))
theorem VcF.fz (h : VcF P O R w W l) (i : Nat) : W.frozen? ⟨O, i, none⟩ = false := by simp [World.frozen?, h.o]
theorem VcF.c (h : VcF P O R w W l) (i : Nat) : W.cell? ⟨O, i, none⟩ = l[i]? := by simp [World.cell?, h.o]
theorem VcF.bel (h : VcF P O R w W l) {N0 : Nat} (e : Below N0 W W') (hN : R < N0) : VcF P O R w W' l := by
  have h3 := h.hO
  have h4 := h.hR
  exact ⟨(e.block O (by omega)).trans h.o, (e.block P (by omega)).trans h.p, h.b.trans (e.mono (by omega)), h3, h4⟩
end
theorem Rl.vo {s s' : Option (List Nat)} {z : VoZ} (h : Rl (s.bind (rdT (rdL rdI) (rdT (rdL rdI) (rdT rdI (rdT (rdL (rdL rdI)) (rdT (rdL rdI) (rdT (rdL rdO) (rdT rdO rdO)))))))) s' (z.main, z.aux, z.tries, z.roots, z.last, z.opens, z.rows, z.lst)) : Rl (s.bind rdV) s' z := by
  obtain ⟨e, f⟩ := h
  cases s with
  | none => exact ⟨e, fun _ _ e => by cases e⟩
  | some bs =>
    have hb : (some bs).bind rdV = rdV bs := rfl
    obtain ⟨q, hq⟩ : ∃ q, q = (rdT (rdL rdI) (rdT (rdL rdI) (rdT rdI (rdT (rdL (rdL rdI)) (rdT (rdL rdI) (rdT (rdL rdO) (rdT rdO rdO)))))) ) bs := ⟨_, rfl⟩
    rw [hb]
    replace e : s' = q.map (·.2) := by rw [hq]; exact e
    replace f : ∀ y r, q = some (y, r) → (z.main, z.aux, z.tries, z.roots, z.last, z.opens, z.rows, z.lst) = y := by rw [hq]; exact f
    unfold rdV
    rw [← hq]
    cases q with
    | none => exact ⟨e, fun _ _ e => by cases e⟩
    | some y =>
      obtain ⟨⟨a, b, c, d, e1, f1, g, i⟩, r⟩ := y
      have := f _ _ rfl
      simp only [Prod.mk.injEq] at this
      obtain ⟨q0, q1, q2, q3, q4, q5, q6, q7⟩ := this
      subst q0 q1 q2 q3 q4 q5 q6 q7
      exact ⟨e, fun y' r2 e => by injection e with e; injection e with e _⟩
theorem q4 {w w' : World} {x0 x1 x4 : List Int} {x3 : List (List Int)} {u0 u1 u3 u4 : Value} (h : SlI w x0 u0 ∧ SlI w x1 u1 ∧ OwnI 0 w u3 x3 ∧ SlI w x4 u4) (k : KI w w') : SlI w' x0 u0 ∧ SlI w' x1 u1 ∧ OwnI 0 w' u3 x3 ∧ SlI w' x4 u4 := ⟨h.1.ki k, h.2.1.ki k, h.2.2.1.ki k, h.2.2.2.ki k⟩
theorem results_ctW {P : Program} {fn : Func} {p u : Tmp} {ty : TypeId} (h : fn.results = #[.cell p ty, .tmp u]) (tmps : Array Value) (w : World) (g : Nat) (tt : TypeId) (cs : Array Value) (fr : Nat × Nat) (d : TypeDesc)
    (hp : tmps.getD p undef = .pointer (some ⟨g, 0, none⟩)) (hg : w.heap[g]? = some (.cells cs tt fr))
    (hu : P.underlying ty = some d) (hd : (match d with | .struct _ | .array _ _ => true | _ => false) = true) (hi : (P.info? ty).map (·.size) = some cs.size) :
    (results fn tmps).run P w = .ok (.tuple #[.agg cs, tmps.getD u undef]) w := by
  have hp' : tmps[p]?.getD undef = .pointer (some ⟨g, 0, none⟩) := by simpa using hp
  simp [results, h, hp', asAddr, run_loadVar_row w g tt ty cs fr d hg hu hd hi]
/-- how the reference's Read ends -/
def RdF (w : World) (o : Option VoZ) (e : Ending) (w' : World) : Prop := Below w.heap.size w w' ∧ match o with
  | some z => ∃ v, e = .returned (.tuple #[v, .bool true]) ∧ PVo w' v z
  | none => e = .returned (.tuple #[.agg zvo.toArray, .bool false])

set_option maxRecDepth 100000 in
set_option maxHeartbeats 16000000 in
theorem rfread_any (a : Option Addr) (c : Nat) (bs : List Nat) (w : World) (hB : ByR w.heap.size w a c bs) (h256 : ∀ b, b ∈ bs → b < 256) (hsz : bs.length ≤ 1048576) : Calls Tryd.prog 8 #[.slice a bs.length c] w (RdF w (rdAll bs)) := by
  obtain ⟨P, hP⟩ : ∃ P, P = w.heap.size := ⟨_, rfl⟩
  obtain ⟨O, hO⟩ : ∃ O, O = P + 1 := ⟨_, rfl⟩
  obtain ⟨R, hR⟩ : ∃ R, R = P + 2 := ⟨_, rfl⟩
  obtain ⟨n, hn⟩ : ∃ n, n = bs.length := ⟨_, rfl⟩
  obtain ⟨U0, hU0⟩ : ∃ W0, W0 = w.alloc (.cells #[.slice none 0 0, .slice none 0 0, .int .i64 0, .slice none 0 0, .slice none 0 0, .slice none 0 0, .slice none 0 0, .slice none 0 0, .slice none 0 0, .slice none 0 0, .slice none 0 0, .slice none 0 0] 30) := ⟨_, rfl⟩
  obtain ⟨V0, hV0⟩ : ∃ W0, W0 = U0.alloc (.cells #[.slice none 0 0, .slice none 0 0, .int .i64 0, .slice none 0 0, .slice none 0 0, .slice none 0 0, .slice none 0 0, .slice none 0 0, .slice none 0 0, .slice none 0 0, .slice none 0 0, .slice none 0 0] 30) := ⟨_, rfl⟩
  obtain ⟨W0, hW0⟩ : ∃ W0, W0 = V0.alloc (.cells #[.slice a n c, .int .i64 0, .bool false] 67) := ⟨_, rfl⟩
  have hus : U0.heap.size = O := by rw [hU0, hO, hP]; simp
  have hvs : V0.heap.size = R := by rw [hV0, hR]; simp [hus, hO]
  have hb0 : Below w.heap.size w U0 := by rw [hU0]; exact (Below.refl _ _).alloc (Nat.le_refl _) _
  have hb1 : Below U0.heap.size U0 V0 := by rw [hV0]; exact (Below.refl _ _).alloc (Nat.le_refl _) _
  have hb2 : Below V0.heap.size V0 W0 := by rw [hW0]; exact (Below.refl _ _).alloc (Nat.le_refl _) _
  have hp0 : U0.heap[P]? = some (.cells zvo.toArray 30 (0, 0)) := by rw [hU0, hP]; exact heap_alloc_new w _
  have ho0 : V0.heap[O]? = some (.cells zvo.toArray 30 (0, 0)) := by rw [← hus, hV0]; exact heap_alloc_new U0 _
  have hr0 : W0.heap[R]? = some (.cells #[.slice a n c, .int .i64 0, .bool false] 67 (0, 0)) := by rw [← hvs, hW0]; exact heap_alloc_new V0 _
  have hbb := (hb0.trans (hb1.mono hb0.size)).trans (hb2.mono (Nat.le_trans hb0.size hb1.size))
  have HS : Hid (VcF P O R w W0 [.slice none 0 0, .slice none 0 0, .int .i64 0, .slice none 0 0, .slice none 0 0, .slice none 0 0, .slice none 0 0, .slice none 0 0, .slice none 0 0, .slice none 0 0, .slice none 0 0, .slice none 0 0]) := ⟨(hb2.block O (by omega)).trans ho0, (hb2.block P (by omega)).trans ((hb1.block P (by omega)).trans hp0), by rw [hP]; exact hbb, hO, hR⟩
  have hr1 : RF P bs W0 R (some bs) := ⟨a, c, 0, Nat.zero_le _, by omega, by rw [← hn]; exact hr0, by rw [hP]; exact hB.blocks (fun b hb => hbb.block b hb), h256, hsz, fun x e => by injection e with e; rw [← e]; rfl⟩
  have HU0 := hid hU0
  have HV0 := hid hV0
  have HW0 := hid hW0
  have HPE : Hid (w.heap.size = P) := hP.symm
  have HOE : Hid (P + 1 = O) := hO.symm
  have HRE : Hid (O + 1 = R) := by unfold Hid; omega
  have HNN : Hid (n = bs.length ∧ n ≤ 1048576) := ⟨hn, by omega⟩
  have HPO : Hid (P < O ∧ O < R) := ⟨by omega, by omega⟩
  have HC := hid (rfnums_any P bs R (some bs) W0 hr1)
  have HR := hid hr1
  obtain ⟨s0, hs0⟩ : ∃ s0, s0 = some bs := ⟨_, rfl⟩
  rw [← hs0] at HC HR
  have HS0 := hid hs0
  clear hs0 hP hO hR hU0 hV0 hW0 hus hvs hb0 hb1 hb2 hp0 ho0 hr0 hbb hB h256 hsz hr1
  rw [← hn]
  clear hn
  go_enter Tryd.func8, Tryd.ntmps8
  go_wp2_with fail
  rw [← HU0.out, ← HV0.out, ← HW0.out, HPE.out, HOE.out, HRE.out]
-- stage 0
  refine HC.out.mono ?_
  rintro e w1 he
  obtain ⟨hg, v0, x0, s1, rfl, hs, h1, hx⟩ := he.rl
  have hs' : SlI w1 x0 v0 := hs
  have hq := hs'
  obtain ⟨a0a, k0a, e0a, _⟩ := hq
  obtain ⟨n0a, hn0a⟩ : ∃ n, n = x0.length := ⟨_, rfl⟩
  rw [← hn0a] at e0a
  subst e0a
  have S0 := HS.out.step hg
  have S1 := S0.set 0 (.slice a0a n0a k0a)
  have hk2 : KO w1 (w1.setCell ⟨O, 0, none⟩ (.slice a0a n0a k0a)) := S0.ko 0 _
  have hk := (rf_ko HR.out hg).trans hk2
  have G0 : Hid (SlI (w1.setCell ⟨O, 0, none⟩ (.slice a0a n0a k0a)) x0 (.slice a0a n0a k0a)) := hs'.ki hk2.1
  have y0 := S0.c 0
  have f0 := S0.fz 0
  have HS2 : Hid (VcF P O R w (w1.setCell ⟨O, 0, none⟩ (.slice a0a n0a k0a)) [.slice a0a n0a k0a, .slice none 0 0, .int .i64 0, .slice none 0 0, .slice none 0 0, .slice none 0 0, .slice none 0 0, .slice none 0 0, .slice none 0 0, .slice none 0 0, .slice none 0 0, .slice none 0 0]) := S1
  have hr2 := S0.rf (Nat.le_refl _) h1 0 (.slice a0a n0a k0a)
  have HC2 := hid (rfnums_any P bs R s1 _ hr2)
  have HR2 := hid hr2
  have HX0 := hid hx
  clear HC HR HS S0 S1 hk hk2 hg h1 hr2 hx he hs hs' hn0a  HU0 HV0 HW0
  have HC := HC2
  have HS := HS2
  have HR := HR2
  clear HC2 HS2 HR2
  have HF0 := G0
  clear G0
  dsimp only [List.getElem?_cons_succ, List.getElem?_cons_zero, List.set_cons_zero, List.set_cons_succ] at y0
  go_wp2_with fail
  clear y0 f0
-- stage 1
  refine HC.out.mono ?_
  rintro e w2 he
  obtain ⟨hg, v1, x1, s2, rfl, hs, h1, hx⟩ := he.rl
  have hs' : SlI w2 x1 v1 := hs
  have hq := hs'
  obtain ⟨a1a, k1a, e1a, _⟩ := hq
  obtain ⟨n1a, hn1a⟩ : ∃ n, n = x1.length := ⟨_, rfl⟩
  rw [← hn1a] at e1a
  subst e1a
  have S0 := HS.out.step hg
  have S1 := S0.set 1 (.slice a1a n1a k1a)
  have hk2 : KO w2 (w2.setCell ⟨O, 1, none⟩ (.slice a1a n1a k1a)) := S0.ko 1 _
  have hk := (rf_ko HR.out hg).trans hk2
  have G0 := hid (HF0.out.ki hk.1)
  have G1 : Hid (SlI (w2.setCell ⟨O, 1, none⟩ (.slice a1a n1a k1a)) x1 (.slice a1a n1a k1a)) := hs'.ki hk2.1
  have y0 := S0.c 1
  have f0 := S0.fz 1
  have HS2 : Hid (VcF P O R w (w2.setCell ⟨O, 1, none⟩ (.slice a1a n1a k1a)) [.slice a0a n0a k0a, .slice a1a n1a k1a, .int .i64 0, .slice none 0 0, .slice none 0 0, .slice none 0 0, .slice none 0 0, .slice none 0 0, .slice none 0 0, .slice none 0 0, .slice none 0 0, .slice none 0 0]) := S1
  have hr2 := S0.rf (Nat.le_refl _) h1 1 (.slice a1a n1a k1a)
  have HC2 := hid (rfnum_any P bs R s2 _ hr2)
  have HR2 := hid hr2
  have HX1 := hid hx
  clear HC HR HS S0 S1 hk hk2 hg h1 hr2 hx he hs hs' hn1a HF0
  have HC := HC2
  have HS := HS2
  have HR := HR2
  clear HC2 HS2 HR2
  have HF0 := G0
  clear G0
  have HF1 := G1
  clear G1
  dsimp only [List.getElem?_cons_succ, List.getElem?_cons_zero, List.set_cons_zero, List.set_cons_succ] at y0
  go_wp2_with fail
  clear y0 f0
-- stage 2
  refine HC.out.mono ?_
  rintro e w3 he
  obtain ⟨hg, v2, x2, s3, rfl, hs, h1, hx⟩ := he.rl
  have hs' : v2 = .int .i64 x2 := hs
  subst hs'
  have S0 := HS.out.step hg
  have S1 := S0.set 2 (.int .i64 x2)
  have hk2 : KO w3 (w3.setCell ⟨O, 2, none⟩ (.int .i64 x2)) := S0.ko 2 _
  have hk := (rf_ko HR.out hg).trans hk2
  have G0 := hid (HF0.out.ki hk.1)
  have G1 := hid (HF1.out.ki hk.1)
  have y0 := S0.c 2
  have f0 := S0.fz 2
  have HS2 : Hid (VcF P O R w (w3.setCell ⟨O, 2, none⟩ (.int .i64 x2)) [.slice a0a n0a k0a, .slice a1a n1a k1a, .int .i64 x2, .slice none 0 0, .slice none 0 0, .slice none 0 0, .slice none 0 0, .slice none 0 0, .slice none 0 0, .slice none 0 0, .slice none 0 0, .slice none 0 0]) := S1
  have hr2 := S0.rf (Nat.le_refl _) h1 2 (.int .i64 x2)
  have HC2 := hid (rfrows_any P bs R s3 _ hr2)
  have HR2 := hid hr2
  have HX2 := hid hx
  clear HC HR HS S0 S1 hk hk2 hg h1 hr2 hx he hs  HF0 HF1
  have HC := HC2
  have HS := HS2
  have HR := HR2
  clear HC2 HS2 HR2
  have HF0 := G0
  clear G0
  have HF1 := G1
  clear G1
  dsimp only [List.getElem?_cons_succ, List.getElem?_cons_zero, List.set_cons_zero, List.set_cons_succ] at y0
  go_wp2_with fail
  clear y0 f0
-- stage 3
  refine HC.out.mono ?_
  rintro e w4 he
  obtain ⟨hg, v3, x3, s4, rfl, hs, h1, hx⟩ := he.rl
  have hs' : OwnI 0 w4 v3 x3 := hs
  obtain ⟨a3a, k3a, e3a, _⟩ := hs'.lst
  obtain ⟨n3a, hn3a⟩ : ∃ n, n = x3.length := ⟨_, rfl⟩
  rw [← hn3a] at e3a
  subst e3a
  have S0 := HS.out.step hg
  have S1 := S0.set 3 (.slice a3a n3a k3a)
  have hk2 : KO w4 (w4.setCell ⟨O, 3, none⟩ (.slice a3a n3a k3a)) := S0.ko 3 _
  have hk := (rf_ko HR.out hg).trans hk2
  have G0 := hid (HF0.out.ki hk.1)
  have G1 := hid (HF1.out.ki hk.1)
  have G3 : Hid (OwnI 0 (w4.setCell ⟨O, 3, none⟩ (.slice a3a n3a k3a)) (.slice a3a n3a k3a) x3) := hs'.ki hk2.1
  have y0 := S0.c 3
  have f0 := S0.fz 3
  have HS2 : Hid (VcF P O R w (w4.setCell ⟨O, 3, none⟩ (.slice a3a n3a k3a)) [.slice a0a n0a k0a, .slice a1a n1a k1a, .int .i64 x2, .slice a3a n3a k3a, .slice none 0 0, .slice none 0 0, .slice none 0 0, .slice none 0 0, .slice none 0 0, .slice none 0 0, .slice none 0 0, .slice none 0 0]) := S1
  have hr2 := S0.rf (Nat.le_refl _) h1 3 (.slice a3a n3a k3a)
  have HC2 := hid (rfnums_any P bs R s4 _ hr2)
  have HR2 := hid hr2
  have HX3 := hid hx
  clear HC HR HS S0 S1 hk hk2 hg h1 hr2 hx he hs hs' hn3a HF0 HF1
  have HC := HC2
  have HS := HS2
  have HR := HR2
  clear HC2 HS2 HR2
  have HF0 := G0
  clear G0
  have HF1 := G1
  clear G1
  have HF3 := G3
  clear G3
  dsimp only [List.getElem?_cons_succ, List.getElem?_cons_zero, List.set_cons_zero, List.set_cons_succ] at y0
  go_wp2_with fail
  clear y0 f0
-- stage 4
  refine HC.out.mono ?_
  rintro e w5 he
  obtain ⟨hg, v4, x4, s5, rfl, hs, h1, hx⟩ := he.rl
  have hs' : SlI w5 x4 v4 := hs
  have hq := hs'
  obtain ⟨a4a, k4a, e4a, _⟩ := hq
  obtain ⟨n4a, hn4a⟩ : ∃ n, n = x4.length := ⟨_, rfl⟩
  rw [← hn4a] at e4a
  subst e4a
  have S0 := HS.out.step hg
  have S1 := S0.set 4 (.slice a4a n4a k4a)
  have hk2 : KO w5 (w5.setCell ⟨O, 4, none⟩ (.slice a4a n4a k4a)) := S0.ko 4 _
  have hk := (rf_ko HR.out hg).trans hk2
  have G0 := hid (HF0.out.ki hk.1)
  have G1 := hid (HF1.out.ki hk.1)
  have G3 := hid (HF3.out.ki hk.1)
  have G4 : Hid (SlI (w5.setCell ⟨O, 4, none⟩ (.slice a4a n4a k4a)) x4 (.slice a4a n4a k4a)) := hs'.ki hk2.1
  have y0 := S0.c 4
  have f0 := S0.fz 4
  have HS2 : Hid (VcF P O R w (w5.setCell ⟨O, 4, none⟩ (.slice a4a n4a k4a)) [.slice a0a n0a k0a, .slice a1a n1a k1a, .int .i64 x2, .slice a3a n3a k3a, .slice a4a n4a k4a, .slice none 0 0, .slice none 0 0, .slice none 0 0, .slice none 0 0, .slice none 0 0, .slice none 0 0, .slice none 0 0]) := S1
  have hr2 := S0.rf (Nat.le_refl _) h1 4 (.slice a4a n4a k4a)
  have HC2 := hid (rfcount_any P bs R s5 _ hr2)
  have HR2 := hid hr2
  have HX4 := hid hx
  clear HC HR HS S0 S1 hk hk2 hg h1 hr2 hx he hs hs' hn4a HF0 HF1 HF3
  have HC := HC2
  have HS := HS2
  have HR := HR2
  clear HC2 HS2 HR2
  have HF0 := G0
  clear G0
  have HF1 := G1
  clear G1
  have HF3 := G3
  clear G3
  have HF4 := G4
  clear G4
  dsimp only [List.getElem?_cons_succ, List.getElem?_cons_zero, List.set_cons_zero, List.set_cons_succ] at y0
  go_wp2_with fail
  clear y0 f0
-- the count
  generalize w5.setCell ⟨O, 4, none⟩ (.slice a4a n4a k4a) = V5 at *
  refine HC.out.mono ?_
  rintro e w6 he
  obtain ⟨hg, v5, m, s6, rfl, hs, h1, hx⟩ := he.rl
  obtain ⟨rfl, hm⟩ := hs
  have S0 := HS.out.step hg
  have hk := rf_ko HR.out hg
  have G0 := hid (HF0.out.ki hk.1)
  have G1 := hid (HF1.out.ki hk.1)
  have G3 := hid (HF3.out.ki hk.1)
  have G4 := hid (HF4.out.ki hk.1)
  have HS2 := hid S0
  have HR2 := hid h1
  obtain ⟨T, hT⟩ : ∃ T, T = s5.bind (rdL rdO) := ⟨_, rfl⟩
  obtain ⟨o, ho⟩ : ∃ o, o = s5.bind rdC := ⟨_, rfl⟩
  have hT' := hT
  rw [bindL, ← ho] at hT'
  rw [← ho] at hx
  have HTT := hid hT
  have HL : Hid (∀ i l s', i ≤ m → (∀ r', s' = some r' → ∃ r0, o = some (m, r0) ∧ rdN rdO r0 i = some (l, r')) → (s' = none → T = none) → (i = m ∨ s' = none) → Rl T s' l) := by
    intro i l s' hi h2 h3 e
    cases s' with
    | none => rw [h3 rfl]; exact ⟨rfl, fun _ _ e => by cases e⟩
    | some r' =>
      obtain ⟨r0, e1, e2⟩ := h2 r' rfl
      rcases e with e | e
      · have hh : T = some (l, r') := by
          rw [hT', e1]
          show rdN rdO r0 m = _
          rw [← e, e2]
        rw [hh]
        exact ⟨rfl, fun y r e => by injection e with e; injection e with e _⟩
      · cases e
  have HT0 : Hid ((∀ r', s6 = some r' → ∃ r0, o = some (m, r0) ∧ rdN rdO r0 0 = some ([], r')) ∧ (s6 = none → T = none)) := by
    obtain ⟨hx1, hx2⟩ := hx
    rw [hx1]
    cases o with
    | none => exact ⟨fun r' e => (by cases e), fun _ => hT'⟩
    | some z =>
      obtain ⟨m', r0⟩ := z
      have := hx2 m' r0 rfl
      subst this
      refine ⟨fun r' e => ?_, fun e => by cases e⟩
      injection e with e
      exact ⟨r0, rfl, by rw [← e]; rfl⟩
  have HTS : Hid (∀ i r0, i ≤ m → o = some (m, r0) → rdN rdO r0 i = none → T = none) := by
    intro i r0 hi e1 e2
    rw [hT', e1]
    exact rdN_none e2 m hi
  clear HC HR HS S0 hk hg h1 hx he hT hT' ho HF0 HF1 HF3 HF4
  have HF0 := G0
  clear G0
  have HF1 := G1
  clear G1
  have HF3 := G3
  clear G3
  have HF4 := G4
  clear G4
  obtain ⟨V6, hV6⟩ : ∃ V6, V6 = w6 := ⟨_, rfl⟩
  have HV6 := hid hV6
  have HRV := hid (show R < V6.heap.size from by rw [hV6]; exact HR2.out.lt)
  clear hV6
  go_wp2_with fail
  go_loopw [7, 8] (fun iv _ wr => ∃ (i : Nat), i ≤ m ∧ iv = .int .i64 (i : Int) ∧ Hid (∃ (l : List OnZ) (s' : Option (List Nat)) (v5 : Value), l.length = i ∧ OwnK V6.heap.size wr v5 l ∧ VcF P O R w wr [.slice a0a n0a k0a, .slice a1a n1a k1a, .int .i64 x2, .slice a3a n3a k3a, .slice a4a n4a k4a, v5, .slice none 0 0, .slice none 0 0, .slice none 0 0, .slice none 0 0, .slice none 0 0, .slice none 0 0] ∧ RF P bs wr R s' ∧ V6.heap.size ≤ wr.heap.size ∧ (SlI wr x0 (.slice a0a n0a k0a) ∧ SlI wr x1 (.slice a1a n1a k1a) ∧ OwnI 0 wr (.slice a3a n3a k3a) x3 ∧ SlI wr x4 (.slice a4a n4a k4a)) ∧ (∀ r', s' = some r' → ∃ r0, o = some (m, r0) ∧ rdN rdO r0 i = some (l, r')) ∧ (s' = none → T = none))) (fun iv _ _ => m - (intOf iv).toNat)
  case atStart => exact ⟨0, Nat.zero_le _, rfl, [], s6, _, rfl, OwnK.nil _ _, HS2.out, HR2.out, by rw [HV6.out]; exact Nat.le_refl _, ⟨HF0.out, HF1.out, HF3.out, HF4.out⟩, HT0.out.1, HT0.out.2⟩
  case round =>
    obtain ⟨i, hi, rfl, hI⟩ := hrel
    obtain ⟨l, s', v5, e2, e3, hV, e4, e5, e8, e6, e7⟩ := hI.out
    obtain ⟨a5, k5, e9, _⟩ := e3.lst
    rw [e2] at e9
    subst e9
    by_cases hex : i = m ∨ s' = none
    · have HLL := hid (HL.out i l s' hi e6 e7 hex)
      have HC := hid (rfopening_any P bs R s' wr e4)
      have HKK := hid e3
      have HQQ := hid e8
      have HSS := hid hV
      have HRR := hid e4
      by_cases hlt : i < m
      · have hlt2 : (i : Int) < (m : Int) := by omega
        have hd : decide ((i : Int) < (m : Int)) = true := decide_eq_true hlt2
        have hsn : s' = none := by
          rcases hex with h | h
          · omega
          · exact h
        subst hsn
        obtain ⟨ad, c', k, _, _, h10, _⟩ := id e4
        have yy : wr.cell? ⟨R, 2, none⟩ = some (.bool true) := by simp [World.cell?, h10]
        clear hex hI e2 e3 hV e4 e5 e8 e6 e7 h10
        go_wp2_with fail
        clear yy hd hlt2 hlt
        refine HC.out.mono ?_
        rintro e w10 he
        obtain ⟨hg, v6, x6, u6, rfl, hs, h1, hx⟩ := he.rl
        obtain ⟨vp6, vr6, vn6, rfl, p1, p2, p3⟩ := hs
        have hs' : POn w10 (.agg #[vp6, vr6, vn6]) x6 := ⟨_, _, _, rfl, p1, p2, p3⟩
        obtain ⟨a6a, k6a, e6a, _⟩ := p1.lst
        obtain ⟨n6a, hn6a⟩ : ∃ n, n = x6.ps.length := ⟨_, rfl⟩
        rw [← hn6a] at e6a
        subst e6a
        obtain ⟨a6b, k6b, e6b, _⟩ := p2.lst
        obtain ⟨n6b, hn6b⟩ : ∃ n, n = x6.rows.length := ⟨_, rfl⟩
        rw [← hn6b] at e6b
        subst e6b
        obtain ⟨a6c, k6c, e6c, _⟩ := p3.lst
        obtain ⟨n6c, hn6c⟩ : ∃ n, n = x6.nodes.length := ⟨_, rfl⟩
        rw [← hn6c] at e6c
        subst e6c
        have S0 := HSS.out.step hg
        have S1 := S0.set 6 (.slice a6a n6a k6a)
        have S2 := S1.set 7 (.slice a6b n6b k6b)
        have S3 := S2.set 8 (.slice a6c n6c k6c)
        have hk2 : KO w10 (((w10.setCell ⟨O, 6, none⟩ (.slice a6a n6a k6a)).setCell ⟨O, 7, none⟩ (.slice a6b n6b k6b)).setCell ⟨O, 8, none⟩ (.slice a6c n6c k6c)) := ((S0.ko 6 _).trans (S1.ko 7 _)).trans (S2.ko 8 _)
        have hk := (rf_ko HRR.out hg).trans hk2
        have hr2 := S2.rf (Nat.le_refl _) (S1.rf (Nat.le_refl _) (S0.rf (Nat.le_refl _) h1 6 (.slice a6a n6a k6a)) 7 (.slice a6b n6b k6b)) 8 (.slice a6c n6c k6c)
        have y0 := S0.c 6
        have f0 := S0.fz 6
        have y1 := S1.c 7
        have f1 := S1.fz 7
        have y2 := S2.c 8
        have f2 := S2.fz 8
        have HS2 : Hid (VcF P O R w (((w10.setCell ⟨O, 6, none⟩ (.slice a6a n6a k6a)).setCell ⟨O, 7, none⟩ (.slice a6b n6b k6b)).setCell ⟨O, 8, none⟩ (.slice a6c n6c k6c)) [.slice a0a n0a k0a, .slice a1a n1a k1a, .int .i64 x2, .slice a3a n3a k3a, .slice a4a n4a k4a, .slice a5 i k5, .slice a6a n6a k6a, .slice a6b n6b k6b, .slice a6c n6c k6c, .slice none 0 0, .slice none 0 0, .slice none 0 0]) := S3
        have HK2 := hid (HKK.out.ko hk)
        have HQ2 := hid (q4 HQQ.out hk.1)
        have HP6 : Hid (POn (((w10.setCell ⟨O, 6, none⟩ (.slice a6a n6a k6a)).setCell ⟨O, 7, none⟩ (.slice a6b n6b k6b)).setCell ⟨O, 8, none⟩ (.slice a6c n6c k6c)) (.agg #[.slice a6a n6a k6a, .slice a6b n6b k6b, .slice a6c n6c k6c]) x6) := hs'.ko hk2
        have HX6 := hid hx
        have HR2 := hid hr2
        obtain ⟨W6, hW6⟩ : ∃ W, W = (((w10.setCell ⟨O, 6, none⟩ (.slice a6a n6a k6a)).setCell ⟨O, 7, none⟩ (.slice a6b n6b k6b)).setCell ⟨O, 8, none⟩ (.slice a6c n6c k6c)) := ⟨_, rfl⟩
        rw [← hW6] at HS2 HK2 HQ2 HR2 HP6 
        have HW6 := hid hW6
        have HC2 := hid (rfopening_any P bs R u6 W6 HR2.out)
        clear HC HRR HSS S0 S1 S2 S3 hk hk2 hg h1 hr2 hs' p1 p2 p3 hn6a hn6b hn6c HKK HQQ he hx hW6
        dsimp only [List.getElem?_cons_succ, List.getElem?_cons_zero, List.set_cons_zero, List.set_cons_succ] at y0 y1 y2
        have HSS := HS2
        have HKK := HK2
        have HQQ := HQ2
        have HRR := HR2
        have HC := HC2
        clear HS2 HK2 HQ2 HR2 HC2
        go_wp2_with fail
        clear y0 y1 y2 f0 f1 f2
        rw [← HW6.out]
        clear HW6
        refine HC.out.mono ?_
        rintro e w11 he
        obtain ⟨hg, v7, x7, u7, rfl, hs, h1, hx⟩ := he.rl
        obtain ⟨vp7, vr7, vn7, rfl, p1, p2, p3⟩ := hs
        have hs' : POn w11 (.agg #[vp7, vr7, vn7]) x7 := ⟨_, _, _, rfl, p1, p2, p3⟩
        obtain ⟨a7a, k7a, e7a, _⟩ := p1.lst
        obtain ⟨n7a, hn7a⟩ : ∃ n, n = x7.ps.length := ⟨_, rfl⟩
        rw [← hn7a] at e7a
        subst e7a
        obtain ⟨a7b, k7b, e7b, _⟩ := p2.lst
        obtain ⟨n7b, hn7b⟩ : ∃ n, n = x7.rows.length := ⟨_, rfl⟩
        rw [← hn7b] at e7b
        subst e7b
        obtain ⟨a7c, k7c, e7c, _⟩ := p3.lst
        obtain ⟨n7c, hn7c⟩ : ∃ n, n = x7.nodes.length := ⟨_, rfl⟩
        rw [← hn7c] at e7c
        subst e7c
        have S0 := HSS.out.step hg
        have S1 := S0.set 9 (.slice a7a n7a k7a)
        have S2 := S1.set 10 (.slice a7b n7b k7b)
        have S3 := S2.set 11 (.slice a7c n7c k7c)
        have hk2 : KO w11 (((w11.setCell ⟨O, 9, none⟩ (.slice a7a n7a k7a)).setCell ⟨O, 10, none⟩ (.slice a7b n7b k7b)).setCell ⟨O, 11, none⟩ (.slice a7c n7c k7c)) := ((S0.ko 9 _).trans (S1.ko 10 _)).trans (S2.ko 11 _)
        have hk := (rf_ko HRR.out hg).trans hk2
        have hr2 := S2.rf (Nat.le_refl _) (S1.rf (Nat.le_refl _) (S0.rf (Nat.le_refl _) h1 9 (.slice a7a n7a k7a)) 10 (.slice a7b n7b k7b)) 11 (.slice a7c n7c k7c)
        have y0 := S0.c 9
        have f0 := S0.fz 9
        have y1 := S1.c 10
        have f1 := S1.fz 10
        have y2 := S2.c 11
        have f2 := S2.fz 11
        have HS2 : Hid (VcF P O R w (((w11.setCell ⟨O, 9, none⟩ (.slice a7a n7a k7a)).setCell ⟨O, 10, none⟩ (.slice a7b n7b k7b)).setCell ⟨O, 11, none⟩ (.slice a7c n7c k7c)) [.slice a0a n0a k0a, .slice a1a n1a k1a, .int .i64 x2, .slice a3a n3a k3a, .slice a4a n4a k4a, .slice a5 i k5, .slice a6a n6a k6a, .slice a6b n6b k6b, .slice a6c n6c k6c, .slice a7a n7a k7a, .slice a7b n7b k7b, .slice a7c n7c k7c]) := S3
        have HK2 := hid (HKK.out.ko hk)
        have HQ2 := hid (q4 HQQ.out hk.1)
        have HP7 : Hid (POn (((w11.setCell ⟨O, 9, none⟩ (.slice a7a n7a k7a)).setCell ⟨O, 10, none⟩ (.slice a7b n7b k7b)).setCell ⟨O, 11, none⟩ (.slice a7c n7c k7c)) (.agg #[.slice a7a n7a k7a, .slice a7b n7b k7b, .slice a7c n7c k7c]) x7) := hs'.ko hk2
        have HP62 := hid (HP6.out.ko hk)
        have HX7 := hid hx
        have HR2 := hid hr2
        obtain ⟨W7, hW7⟩ : ∃ W, W = (((w11.setCell ⟨O, 9, none⟩ (.slice a7a n7a k7a)).setCell ⟨O, 10, none⟩ (.slice a7b n7b k7b)).setCell ⟨O, 11, none⟩ (.slice a7c n7c k7c)) := ⟨_, rfl⟩
        rw [← hW7] at HS2 HK2 HQ2 HR2 HP7 HP62
        have HW7 := hid hW7
        clear HC HRR HSS S0 S1 S2 S3 hk hk2 hg h1 hr2 hs' p1 p2 p3 hn7a hn7b hn7c HKK HQQ he hx hW7 HP6
        dsimp only [List.getElem?_cons_succ, List.getElem?_cons_zero, List.set_cons_zero, List.set_cons_succ] at y0 y1 y2
        have HSS := HS2
        have HKK := HK2
        have HQQ := HQ2
        have HRR := HR2
        have HP6 := HP62
        clear HS2 HK2 HQ2 HR2 HP62
        obtain ⟨aQ, cQ, kQ, hkQ, _, h10, _, _, _, h11⟩ := id HRR.out
        rw [← HNN.out.1] at hkQ h10
        have hkQ2 : kQ ≤ 1048576 := Nat.le_trans hkQ HNN.out.2
        have yb : W7.cell? ⟨R, 2, none⟩ = some (.bool u7.isNone) := by simp [World.cell?, h10]
        have ya : W7.cell? ⟨R, 1, none⟩ = some (.int .i64 (kQ : Int)) := by simp [World.cell?, h10]
        have HXX : Hid (Rl (s0.bind rdV) u7 ⟨x0, x1, x2, x3, x4, l, x6, x7⟩) := Rl.vo (HX0.out.pair (HX1.out.pair (HX2.out.pair (HX3.out.pair (HX4.out.pair ((show Rl (s5.bind (rdL rdO)) _ l from by rw [← HTT.out]; exact HLL.out).pair (HX6.out.pair HX7.out)))))))
        have HZP : Hid (zvo.toArray.all (·.oneCell') = true) := by unfold Hid; simp [zvo, Value.oneCell']
        have hp7 := HSS.out.p
        have ho7 := HSS.out.o
        have HEN : Hid (rdAll bs = none → RdF w (rdAll bs) (.returned (.tuple #[.agg zvo.toArray, .bool false])) (W7.setRow P zvo.toArray)) := by
          intro h
          rw [h]
          exact ⟨by rw [HPE.out]; exact below_setRow HSS.out.b (Nat.le_refl _) _, rfl⟩
        have HPN : Hid ((W7.setRow P zvo.toArray).heap[P]? = some (.cells zvo.toArray 30 (0, 0))) := setRow_heap _ _ _ _ _ _ hp7
        have HPY : Hid ((W7.setRow P #[.slice a0a n0a k0a, .slice a1a n1a k1a, .int .i64 x2, .slice a3a n3a k3a, .slice a4a n4a k4a, .slice a5 i k5, .slice a6a n6a k6a, .slice a6b n6b k6b, .slice a6c n6c k6c, .slice a7a n7a k7a, .slice a7b n7b k7b, .slice a7c n7c k7c]).heap[P]? = some (.cells #[.slice a0a n0a k0a, .slice a1a n1a k1a, .int .i64 x2, .slice a3a n3a k3a, .slice a4a n4a k4a, .slice a5 i k5, .slice a6a n6a k6a, .slice a6b n6b k6b, .slice a6c n6c k6c, .slice a7a n7a k7a, .slice a7b n7b k7b, .slice a7c n7c k7c] 30 (0, 0))) := setRow_heap _ _ _ _ _ _ hp7
        have HEY : Hid (rdAll bs = some ⟨x0, x1, x2, x3, x4, l, x6, x7⟩ → RdF w (rdAll bs) (.returned (.tuple #[.agg #[.slice a0a n0a k0a, .slice a1a n1a k1a, .int .i64 x2, .slice a3a n3a k3a, .slice a4a n4a k4a, .slice a5 i k5, .slice a6a n6a k6a, .slice a6b n6b k6b, .slice a6c n6c k6c, .slice a7a n7a k7a, .slice a7b n7b k7b, .slice a7c n7c k7c], .bool true])) (W7.setRow P #[.slice a0a n0a k0a, .slice a1a n1a k1a, .int .i64 x2, .slice a3a n3a k3a, .slice a4a n4a k4a, .slice a5 i k5, .slice a6a n6a k6a, .slice a6b n6b k6b, .slice a6c n6c k6c, .slice a7a n7a k7a, .slice a7b n7b k7b, .slice a7c n7c k7c])) := by
          intro h
          rw [h]
          have hK : KO W7 (W7.setRow P #[.slice a0a n0a k0a, .slice a1a n1a k1a, .int .i64 x2, .slice a3a n3a k3a, .slice a4a n4a k4a, .slice a5 i k5, .slice a6a n6a k6a, .slice a6b n6b k6b, .slice a6c n6c k6c, .slice a7a n7a k7a, .slice a7b n7b k7b, .slice a7c n7c k7c]) := KO.oth hp7 (by decide) (by decide) (by decide) (by simp) (fun b _ hb => setRow_other _ _ _ _ hb)
          obtain ⟨q0, q1, q3, q4'⟩ := q4 HQQ.out hK.1
          exact ⟨by rw [HPE.out]; exact below_setRow HSS.out.b (Nat.le_refl _) _, _, rfl, _, _, _, _, _, _, _, _, _, _, _, _, rfl, ⟨q0, q1, rfl, q3, q4'⟩, (HKK.out.ko hK).mono (Nat.zero_le _), HP6.out.ko hK, HP7.out.ko hK⟩
        have hrv : ∀ r', u7 = some r' → rdV bs = some (⟨x0, x1, x2, x3, x4, l, x6, x7⟩, r') := by
          intro r' e
          obtain ⟨e1, e2⟩ := HXX.out
          rw [HS0.out] at e1 e2
          have hb : (some bs).bind rdV = rdV bs := rfl
          rw [hb] at e1 e2
          rw [e] at e1
          cases hd : rdV bs with
          | none => rw [hd] at e1; cases e1
          | some z =>
            obtain ⟨z, r⟩ := z
            rw [hd] at e1
            injection e1 with e1
            rw [← e2 z r hd, e1]
        have hrn : u7 = none → rdV bs = none := by
          intro e
          obtain ⟨e1, e2⟩ := HXX.out
          rw [HS0.out] at e1
          have hb : (some bs).bind rdV = rdV bs := rfl
          rw [hb, e] at e1
          cases hd : rdV bs with
          | none => rfl
          | some z => rw [hd] at e1; cases e1
        have HRV := hid hrv
        have HRN := hid hrn
        have HH11 := hid h11
        clear hrv hrn h10 h11 HXX HX0 HX1 HX2 HX3 HX4 HX6 HX7 HLL
        cases hu : u7 with
        | none =>
          subst hu
          have HE := HEN.out (rdAll_none (HRN.out rfl))
          have HED := hid HE
          have yb' : W7.cell? ⟨R, 2, none⟩ = some (.bool true) := yb
          clear yb HE
          go_wp2_with (first
            | (rw [← HW7.out])
            | (refine wpList_store_row rfl 30 _ _ rfl P zvo.toArray rfl rfl _ _ hp7 (by kernel_rfl) rfl HZP.out ?_))
          refine bodyPost_ret (results_ctW rfl _ _ P 30 _ (0, 0) _ rfl HPN.out Tryd.underlying30 rfl (by kernel_rfl)) rfl ?_
          exact HED.out
        | some r' =>
          subst hu
          have yb' : W7.cell? ⟨R, 2, none⟩ = some (.bool false) := yb
          have hr' := HH11.out r' rfl
          by_cases hlt : kQ < n
          · have hq : decide (kQ < n) = true := decide_eq_true hlt
            have HE := HEN.out (by
              have h1 : r' ≠ [] := by
                intro h
                have := congrArg List.length (hr'.symm.trans h)
                rw [List.length_drop, ← HNN.out.1] at this
                simp at this
                omega
              obtain ⟨b1, r1, rfl⟩ := List.exists_cons_of_ne_nil h1
              exact rdAll_more (HRV.out _ rfl))
            have HED := hid HE
            clear yb HE hlt hr'
            go_wp2_with (first
              | (rw [← HW7.out])
              | (refine wpList_store_row rfl 30 _ _ rfl P zvo.toArray rfl rfl _ _ hp7 (by kernel_rfl) rfl HZP.out ?_))
            refine bodyPost_ret (results_ctW rfl _ _ P 30 _ (0, 0) _ rfl HPN.out Tryd.underlying30 rfl (by kernel_rfl)) rfl ?_
            exact HED.out
          · have hq : decide (kQ < n) = false := decide_eq_false hlt
            have HE := HEY.out (by
              have h1 : r' = [] := by
                rw [hr']
                exact List.drop_eq_nil_of_le (by rw [← HNN.out.1]; omega)
              subst h1
              exact rdAll_all (HRV.out _ rfl))
            have HED := hid HE
            clear yb HE hlt hr'
            go_wp2_with (first
              | (rw [← HW7.out])
              | (refine wpList_load_row rfl 30 _ rfl O rfl _ _ _ _ ho7 Tryd.underlying30 rfl (by kernel_rfl) ?_)
              | (refine wpList_store_row rfl 30 _ _ rfl P #[.slice a0a n0a k0a, .slice a1a n1a k1a, .int .i64 x2, .slice a3a n3a k3a, .slice a4a n4a k4a, .slice a5 i k5, .slice a6a n6a k6a, .slice a6b n6b k6b, .slice a6c n6c k6c, .slice a7a n7a k7a, .slice a7b n7b k7b, .slice a7c n7c k7c] rfl rfl _ _ hp7 (by kernel_rfl) rfl (by simp [Value.oneCell']) ?_))
            refine bodyPost_ret (results_ctW rfl _ _ P 30 _ (0, 0) _ rfl HPY.out Tryd.underlying30 rfl (by kernel_rfl)) rfl ?_
            exact HED.out

      · obtain rfl : i = m := by omega
        have hd : decide ((i : Int) < (i : Int)) = false := decide_eq_false (by omega)
        clear hex hI e2 e3 hV e4 e5 e8 e6 e7 hlt
        go_wp2_with fail
        clear hd
        refine HC.out.mono ?_
        rintro e w10 he
        obtain ⟨hg, v6, x6, u6, rfl, hs, h1, hx⟩ := he.rl
        obtain ⟨vp6, vr6, vn6, rfl, p1, p2, p3⟩ := hs
        have hs' : POn w10 (.agg #[vp6, vr6, vn6]) x6 := ⟨_, _, _, rfl, p1, p2, p3⟩
        obtain ⟨a6a, k6a, e6a, _⟩ := p1.lst
        obtain ⟨n6a, hn6a⟩ : ∃ n, n = x6.ps.length := ⟨_, rfl⟩
        rw [← hn6a] at e6a
        subst e6a
        obtain ⟨a6b, k6b, e6b, _⟩ := p2.lst
        obtain ⟨n6b, hn6b⟩ : ∃ n, n = x6.rows.length := ⟨_, rfl⟩
        rw [← hn6b] at e6b
        subst e6b
        obtain ⟨a6c, k6c, e6c, _⟩ := p3.lst
        obtain ⟨n6c, hn6c⟩ : ∃ n, n = x6.nodes.length := ⟨_, rfl⟩
        rw [← hn6c] at e6c
        subst e6c
        have S0 := HSS.out.step hg
        have S1 := S0.set 6 (.slice a6a n6a k6a)
        have S2 := S1.set 7 (.slice a6b n6b k6b)
        have S3 := S2.set 8 (.slice a6c n6c k6c)
        have hk2 : KO w10 (((w10.setCell ⟨O, 6, none⟩ (.slice a6a n6a k6a)).setCell ⟨O, 7, none⟩ (.slice a6b n6b k6b)).setCell ⟨O, 8, none⟩ (.slice a6c n6c k6c)) := ((S0.ko 6 _).trans (S1.ko 7 _)).trans (S2.ko 8 _)
        have hk := (rf_ko HRR.out hg).trans hk2
        have hr2 := S2.rf (Nat.le_refl _) (S1.rf (Nat.le_refl _) (S0.rf (Nat.le_refl _) h1 6 (.slice a6a n6a k6a)) 7 (.slice a6b n6b k6b)) 8 (.slice a6c n6c k6c)
        have y0 := S0.c 6
        have f0 := S0.fz 6
        have y1 := S1.c 7
        have f1 := S1.fz 7
        have y2 := S2.c 8
        have f2 := S2.fz 8
        have HS2 : Hid (VcF P O R w (((w10.setCell ⟨O, 6, none⟩ (.slice a6a n6a k6a)).setCell ⟨O, 7, none⟩ (.slice a6b n6b k6b)).setCell ⟨O, 8, none⟩ (.slice a6c n6c k6c)) [.slice a0a n0a k0a, .slice a1a n1a k1a, .int .i64 x2, .slice a3a n3a k3a, .slice a4a n4a k4a, .slice a5 i k5, .slice a6a n6a k6a, .slice a6b n6b k6b, .slice a6c n6c k6c, .slice none 0 0, .slice none 0 0, .slice none 0 0]) := S3
        have HK2 := hid (HKK.out.ko hk)
        have HQ2 := hid (q4 HQQ.out hk.1)
        have HP6 : Hid (POn (((w10.setCell ⟨O, 6, none⟩ (.slice a6a n6a k6a)).setCell ⟨O, 7, none⟩ (.slice a6b n6b k6b)).setCell ⟨O, 8, none⟩ (.slice a6c n6c k6c)) (.agg #[.slice a6a n6a k6a, .slice a6b n6b k6b, .slice a6c n6c k6c]) x6) := hs'.ko hk2
        have HX6 := hid hx
        have HR2 := hid hr2
        obtain ⟨W6, hW6⟩ : ∃ W, W = (((w10.setCell ⟨O, 6, none⟩ (.slice a6a n6a k6a)).setCell ⟨O, 7, none⟩ (.slice a6b n6b k6b)).setCell ⟨O, 8, none⟩ (.slice a6c n6c k6c)) := ⟨_, rfl⟩
        rw [← hW6] at HS2 HK2 HQ2 HR2 HP6 
        have HW6 := hid hW6
        have HC2 := hid (rfopening_any P bs R u6 W6 HR2.out)
        clear HC HRR HSS S0 S1 S2 S3 hk hk2 hg h1 hr2 hs' p1 p2 p3 hn6a hn6b hn6c HKK HQQ he hx hW6
        dsimp only [List.getElem?_cons_succ, List.getElem?_cons_zero, List.set_cons_zero, List.set_cons_succ] at y0 y1 y2
        have HSS := HS2
        have HKK := HK2
        have HQQ := HQ2
        have HRR := HR2
        have HC := HC2
        clear HS2 HK2 HQ2 HR2 HC2
        go_wp2_with fail
        clear y0 y1 y2 f0 f1 f2
        rw [← HW6.out]
        clear HW6
        refine HC.out.mono ?_
        rintro e w11 he
        obtain ⟨hg, v7, x7, u7, rfl, hs, h1, hx⟩ := he.rl
        obtain ⟨vp7, vr7, vn7, rfl, p1, p2, p3⟩ := hs
        have hs' : POn w11 (.agg #[vp7, vr7, vn7]) x7 := ⟨_, _, _, rfl, p1, p2, p3⟩
        obtain ⟨a7a, k7a, e7a, _⟩ := p1.lst
        obtain ⟨n7a, hn7a⟩ : ∃ n, n = x7.ps.length := ⟨_, rfl⟩
        rw [← hn7a] at e7a
        subst e7a
        obtain ⟨a7b, k7b, e7b, _⟩ := p2.lst
        obtain ⟨n7b, hn7b⟩ : ∃ n, n = x7.rows.length := ⟨_, rfl⟩
        rw [← hn7b] at e7b
        subst e7b
        obtain ⟨a7c, k7c, e7c, _⟩ := p3.lst
        obtain ⟨n7c, hn7c⟩ : ∃ n, n = x7.nodes.length := ⟨_, rfl⟩
        rw [← hn7c] at e7c
        subst e7c
        have S0 := HSS.out.step hg
        have S1 := S0.set 9 (.slice a7a n7a k7a)
        have S2 := S1.set 10 (.slice a7b n7b k7b)
        have S3 := S2.set 11 (.slice a7c n7c k7c)
        have hk2 : KO w11 (((w11.setCell ⟨O, 9, none⟩ (.slice a7a n7a k7a)).setCell ⟨O, 10, none⟩ (.slice a7b n7b k7b)).setCell ⟨O, 11, none⟩ (.slice a7c n7c k7c)) := ((S0.ko 9 _).trans (S1.ko 10 _)).trans (S2.ko 11 _)
        have hk := (rf_ko HRR.out hg).trans hk2
        have hr2 := S2.rf (Nat.le_refl _) (S1.rf (Nat.le_refl _) (S0.rf (Nat.le_refl _) h1 9 (.slice a7a n7a k7a)) 10 (.slice a7b n7b k7b)) 11 (.slice a7c n7c k7c)
        have y0 := S0.c 9
        have f0 := S0.fz 9
        have y1 := S1.c 10
        have f1 := S1.fz 10
        have y2 := S2.c 11
        have f2 := S2.fz 11
        have HS2 : Hid (VcF P O R w (((w11.setCell ⟨O, 9, none⟩ (.slice a7a n7a k7a)).setCell ⟨O, 10, none⟩ (.slice a7b n7b k7b)).setCell ⟨O, 11, none⟩ (.slice a7c n7c k7c)) [.slice a0a n0a k0a, .slice a1a n1a k1a, .int .i64 x2, .slice a3a n3a k3a, .slice a4a n4a k4a, .slice a5 i k5, .slice a6a n6a k6a, .slice a6b n6b k6b, .slice a6c n6c k6c, .slice a7a n7a k7a, .slice a7b n7b k7b, .slice a7c n7c k7c]) := S3
        have HK2 := hid (HKK.out.ko hk)
        have HQ2 := hid (q4 HQQ.out hk.1)
        have HP7 : Hid (POn (((w11.setCell ⟨O, 9, none⟩ (.slice a7a n7a k7a)).setCell ⟨O, 10, none⟩ (.slice a7b n7b k7b)).setCell ⟨O, 11, none⟩ (.slice a7c n7c k7c)) (.agg #[.slice a7a n7a k7a, .slice a7b n7b k7b, .slice a7c n7c k7c]) x7) := hs'.ko hk2
        have HP62 := hid (HP6.out.ko hk)
        have HX7 := hid hx
        have HR2 := hid hr2
        obtain ⟨W7, hW7⟩ : ∃ W, W = (((w11.setCell ⟨O, 9, none⟩ (.slice a7a n7a k7a)).setCell ⟨O, 10, none⟩ (.slice a7b n7b k7b)).setCell ⟨O, 11, none⟩ (.slice a7c n7c k7c)) := ⟨_, rfl⟩
        rw [← hW7] at HS2 HK2 HQ2 HR2 HP7 HP62
        have HW7 := hid hW7
        clear HC HRR HSS S0 S1 S2 S3 hk hk2 hg h1 hr2 hs' p1 p2 p3 hn7a hn7b hn7c HKK HQQ he hx hW7 HP6
        dsimp only [List.getElem?_cons_succ, List.getElem?_cons_zero, List.set_cons_zero, List.set_cons_succ] at y0 y1 y2
        have HSS := HS2
        have HKK := HK2
        have HQQ := HQ2
        have HRR := HR2
        have HP6 := HP62
        clear HS2 HK2 HQ2 HR2 HP62
        obtain ⟨aQ, cQ, kQ, hkQ, _, h10, _, _, _, h11⟩ := id HRR.out
        rw [← HNN.out.1] at hkQ h10
        have hkQ2 : kQ ≤ 1048576 := Nat.le_trans hkQ HNN.out.2
        have yb : W7.cell? ⟨R, 2, none⟩ = some (.bool u7.isNone) := by simp [World.cell?, h10]
        have ya : W7.cell? ⟨R, 1, none⟩ = some (.int .i64 (kQ : Int)) := by simp [World.cell?, h10]
        have HXX : Hid (Rl (s0.bind rdV) u7 ⟨x0, x1, x2, x3, x4, l, x6, x7⟩) := Rl.vo (HX0.out.pair (HX1.out.pair (HX2.out.pair (HX3.out.pair (HX4.out.pair ((show Rl (s5.bind (rdL rdO)) _ l from by rw [← HTT.out]; exact HLL.out).pair (HX6.out.pair HX7.out)))))))
        have HZP : Hid (zvo.toArray.all (·.oneCell') = true) := by unfold Hid; simp [zvo, Value.oneCell']
        have hp7 := HSS.out.p
        have ho7 := HSS.out.o
        have HEN : Hid (rdAll bs = none → RdF w (rdAll bs) (.returned (.tuple #[.agg zvo.toArray, .bool false])) (W7.setRow P zvo.toArray)) := by
          intro h
          rw [h]
          exact ⟨by rw [HPE.out]; exact below_setRow HSS.out.b (Nat.le_refl _) _, rfl⟩
        have HPN : Hid ((W7.setRow P zvo.toArray).heap[P]? = some (.cells zvo.toArray 30 (0, 0))) := setRow_heap _ _ _ _ _ _ hp7
        have HPY : Hid ((W7.setRow P #[.slice a0a n0a k0a, .slice a1a n1a k1a, .int .i64 x2, .slice a3a n3a k3a, .slice a4a n4a k4a, .slice a5 i k5, .slice a6a n6a k6a, .slice a6b n6b k6b, .slice a6c n6c k6c, .slice a7a n7a k7a, .slice a7b n7b k7b, .slice a7c n7c k7c]).heap[P]? = some (.cells #[.slice a0a n0a k0a, .slice a1a n1a k1a, .int .i64 x2, .slice a3a n3a k3a, .slice a4a n4a k4a, .slice a5 i k5, .slice a6a n6a k6a, .slice a6b n6b k6b, .slice a6c n6c k6c, .slice a7a n7a k7a, .slice a7b n7b k7b, .slice a7c n7c k7c] 30 (0, 0))) := setRow_heap _ _ _ _ _ _ hp7
        have HEY : Hid (rdAll bs = some ⟨x0, x1, x2, x3, x4, l, x6, x7⟩ → RdF w (rdAll bs) (.returned (.tuple #[.agg #[.slice a0a n0a k0a, .slice a1a n1a k1a, .int .i64 x2, .slice a3a n3a k3a, .slice a4a n4a k4a, .slice a5 i k5, .slice a6a n6a k6a, .slice a6b n6b k6b, .slice a6c n6c k6c, .slice a7a n7a k7a, .slice a7b n7b k7b, .slice a7c n7c k7c], .bool true])) (W7.setRow P #[.slice a0a n0a k0a, .slice a1a n1a k1a, .int .i64 x2, .slice a3a n3a k3a, .slice a4a n4a k4a, .slice a5 i k5, .slice a6a n6a k6a, .slice a6b n6b k6b, .slice a6c n6c k6c, .slice a7a n7a k7a, .slice a7b n7b k7b, .slice a7c n7c k7c])) := by
          intro h
          rw [h]
          have hK : KO W7 (W7.setRow P #[.slice a0a n0a k0a, .slice a1a n1a k1a, .int .i64 x2, .slice a3a n3a k3a, .slice a4a n4a k4a, .slice a5 i k5, .slice a6a n6a k6a, .slice a6b n6b k6b, .slice a6c n6c k6c, .slice a7a n7a k7a, .slice a7b n7b k7b, .slice a7c n7c k7c]) := KO.oth hp7 (by decide) (by decide) (by decide) (by simp) (fun b _ hb => setRow_other _ _ _ _ hb)
          obtain ⟨q0, q1, q3, q4'⟩ := q4 HQQ.out hK.1
          exact ⟨by rw [HPE.out]; exact below_setRow HSS.out.b (Nat.le_refl _) _, _, rfl, _, _, _, _, _, _, _, _, _, _, _, _, rfl, ⟨q0, q1, rfl, q3, q4'⟩, (HKK.out.ko hK).mono (Nat.zero_le _), HP6.out.ko hK, HP7.out.ko hK⟩
        have hrv : ∀ r', u7 = some r' → rdV bs = some (⟨x0, x1, x2, x3, x4, l, x6, x7⟩, r') := by
          intro r' e
          obtain ⟨e1, e2⟩ := HXX.out
          rw [HS0.out] at e1 e2
          have hb : (some bs).bind rdV = rdV bs := rfl
          rw [hb] at e1 e2
          rw [e] at e1
          cases hd : rdV bs with
          | none => rw [hd] at e1; cases e1
          | some z =>
            obtain ⟨z, r⟩ := z
            rw [hd] at e1
            injection e1 with e1
            rw [← e2 z r hd, e1]
        have hrn : u7 = none → rdV bs = none := by
          intro e
          obtain ⟨e1, e2⟩ := HXX.out
          rw [HS0.out] at e1
          have hb : (some bs).bind rdV = rdV bs := rfl
          rw [hb, e] at e1
          cases hd : rdV bs with
          | none => rfl
          | some z => rw [hd] at e1; cases e1
        have HRV := hid hrv
        have HRN := hid hrn
        have HH11 := hid h11
        clear hrv hrn h10 h11 HXX HX0 HX1 HX2 HX3 HX4 HX6 HX7 HLL
        cases hu : u7 with
        | none =>
          subst hu
          have HE := HEN.out (rdAll_none (HRN.out rfl))
          have HED := hid HE
          have yb' : W7.cell? ⟨R, 2, none⟩ = some (.bool true) := yb
          clear yb HE
          go_wp2_with (first
            | (rw [← HW7.out])
            | (refine wpList_store_row rfl 30 _ _ rfl P zvo.toArray rfl rfl _ _ hp7 (by kernel_rfl) rfl HZP.out ?_))
          refine bodyPost_ret (results_ctW rfl _ _ P 30 _ (0, 0) _ rfl HPN.out Tryd.underlying30 rfl (by kernel_rfl)) rfl ?_
          exact HED.out
        | some r' =>
          subst hu
          have yb' : W7.cell? ⟨R, 2, none⟩ = some (.bool false) := yb
          have hr' := HH11.out r' rfl
          by_cases hlt : kQ < n
          · have hq : decide (kQ < n) = true := decide_eq_true hlt
            have HE := HEN.out (by
              have h1 : r' ≠ [] := by
                intro h
                have := congrArg List.length (hr'.symm.trans h)
                rw [List.length_drop, ← HNN.out.1] at this
                simp at this
                omega
              obtain ⟨b1, r1, rfl⟩ := List.exists_cons_of_ne_nil h1
              exact rdAll_more (HRV.out _ rfl))
            have HED := hid HE
            clear yb HE hlt hr'
            go_wp2_with (first
              | (rw [← HW7.out])
              | (refine wpList_store_row rfl 30 _ _ rfl P zvo.toArray rfl rfl _ _ hp7 (by kernel_rfl) rfl HZP.out ?_))
            refine bodyPost_ret (results_ctW rfl _ _ P 30 _ (0, 0) _ rfl HPN.out Tryd.underlying30 rfl (by kernel_rfl)) rfl ?_
            exact HED.out
          · have hq : decide (kQ < n) = false := decide_eq_false hlt
            have HE := HEY.out (by
              have h1 : r' = [] := by
                rw [hr']
                exact List.drop_eq_nil_of_le (by rw [← HNN.out.1]; omega)
              subst h1
              exact rdAll_all (HRV.out _ rfl))
            have HED := hid HE
            clear yb HE hlt hr'
            go_wp2_with (first
              | (rw [← HW7.out])
              | (refine wpList_load_row rfl 30 _ rfl O rfl _ _ _ _ ho7 Tryd.underlying30 rfl (by kernel_rfl) ?_)
              | (refine wpList_store_row rfl 30 _ _ rfl P #[.slice a0a n0a k0a, .slice a1a n1a k1a, .int .i64 x2, .slice a3a n3a k3a, .slice a4a n4a k4a, .slice a5 i k5, .slice a6a n6a k6a, .slice a6b n6b k6b, .slice a6c n6c k6c, .slice a7a n7a k7a, .slice a7b n7b k7b, .slice a7c n7c k7c] rfl rfl _ _ hp7 (by kernel_rfl) rfl (by simp [Value.oneCell']) ?_))
            refine bodyPost_ret (results_ctW rfl _ _ P 30 _ (0, 0) _ rfl HPY.out Tryd.underlying30 rfl (by kernel_rfl)) rfl ?_
            exact HED.out

    · have hlt : i < m := by omega
      have hlt2 : (i : Int) < (m : Int) := by omega
      have hd : decide ((i : Int) < (m : Int)) = true := decide_eq_true hlt2
      have hks : IntKind.i64.wrap ((i : Int) + 1) = (i : Int) + 1 := by rw [IntKind.wrap_i64]; omega
      obtain ⟨ad, c', k, _, _, h10, _⟩ := id e4
      have y2 : wr.cell? ⟨R, 2, none⟩ = some (.bool s'.isNone) := by simp [World.cell?, h10]
      cases hs' : s' with
      | none => exact absurd (Or.inr hs') hex
      | some r' =>
        subst hs'
        have y2' : wr.cell? ⟨R, 2, none⟩ = some (.bool false) := y2
        have HO := hid (rfopening_any P bs R (some r') wr e4)
        have HS1 : Hid ((∀ x r'', rdO r' = some (x, r'') → ∃ r0, o = some (m, r0) ∧ rdN rdO r0 (i + 1) = some (l ++ [x], r'')) ∧ (rdO r' = none → T = none) ∧ l.length = i) := by
          obtain ⟨r0, k1, k2⟩ := e6 r' rfl
          refine ⟨fun x r'' e => ⟨r0, k1, ?_⟩, fun e => ?_, e2⟩
          · simp only [rdN, k2, e]
          · refine HTS.out (i + 1) r0 (by omega) k1 ?_
            simp only [rdN, k2, e]
        have HI := hI
        have HKK := hid e3
        have HQQ := hid e8
        have HSS := hid hV
        have HRR := hid e4
        have HZZ := hid e5
        have o2 := hV.c 5
        dsimp only [List.getElem?_cons_succ, List.getElem?_cons_zero] at o2
        clear y2 hI e3 hV e4 e5 e8 e6 e7 h10 hex HI
        go_wp2_with fail
        refine HO.out.mono ?_
        rintro e w7 he
        obtain ⟨hg7, v7, x, s2, rfl, hv7, h7, hx7⟩ := he.rl
        have hk7 := rf_ko HRR.out hg7
        have HREL : Hid ((∀ r'', s2 = some r'' → ∃ r0, o = some (m, r0) ∧ rdN rdO r0 (i + 1) = some (l ++ [x], r'')) ∧ (s2 = none → T = none)) := by
          obtain ⟨hx7, hx8⟩ := hx7
          rw [hx7]
          have h9 : (some r').bind rdO = rdO r' := rfl
          rw [h9] at hx8 ⊢
          cases hrd : rdO r' with
          | none => exact ⟨fun _ e => (by cases e), fun _ => HS1.out.2.1 hrd⟩
          | some z =>
            obtain ⟨y, r2⟩ := z
            have := hx8 y r2 hrd
            subst this
            refine ⟨fun r'' e => ?_, fun e => by cases e⟩
            injection e with e
            exact HS1.out.1 x r'' (by rw [hrd, ← e])
        obtain ⟨vp, vr, vn, rfl, p1, p2, p3⟩ := hv7
        have hba : Below w7.heap.size w7 (w7.alloc (.cells #[vp, vr, vn] 28)) := (Below.refl _ _).alloc (Nat.le_refl _) _
        have HS7 := (HSS.out.step hg7)
        have HF6 := hid (HS7.bel hba h7.lt)
        have HW6 := hid ((HKK.out.ko hk7).ko (KO.below hba))
        have HQ6 := hid (q4 (q4 HQQ.out hk7.1) (KI.below hba))
        have hR6 := (h7.below hba)
        have HR6 := hid hR6
        have hS6 := p1.ki (KI.below hba)
        have hR6' := (p2.ki (KI.below hba))
        have hN6 := (p3.ki (KI.below hba))
        have hz6 : V6.heap.size ≤ (w7.alloc (.cells #[vp, vr, vn] 28)).heap.size := by
          have h1 := hg7.size
          have h2 := HZZ.out
          have h3 := hba.size
          omega
        have hx6 : (w7.alloc (.cells #[vp, vr, vn] 28)).heap.size = w7.heap.size + 1 := by simp
        have m2 := HF6.out.c 5
        dsimp only [List.getElem?_cons_succ, List.getElem?_cons_zero] at m2
        obtain ⟨ap, cp, hvp, _⟩ := p1.lst
        obtain ⟨ar, cr, hvr, _⟩ := p2.lst
        obtain ⟨an', cn, hvn, _⟩ := p3.lst
        obtain ⟨lp, hlp⟩ : ∃ lp, lp = x.ps.length := ⟨_, rfl⟩
        obtain ⟨lr, hlr⟩ : ∃ lr, lr = x.rows.length := ⟨_, rfl⟩
        obtain ⟨ln, hln⟩ : ∃ ln, ln = x.nodes.length := ⟨_, rfl⟩
        rw [← hlp] at hvp
        rw [← hlr] at hvr
        rw [← hln] at hvn
        subst hvp hvr hvn
        have HLE := hid HS1.out.2.2
        clear p1 p2 p3 hg7 he h7 hx7 hk7 HS7 hba HO o2 y2' HSS HKK HQQ HRR hR6 hlp hlr hln
        go_wp2_with (at_builtin; refine wpList_onI (w7.alloc (.cells #[_, _, _] 28)) V6.heap.size rfl _ _ rfl _ _ _ _ l x HW6.out hS6 hR6' hN6 rfl (by rw [hx6]; rfl) (by rw [HLE.out]; omega) hz6 ?_)
        intro v8 w8 ho8 hb8 hs8 hn8
        replace hn8 : ∀ (b : Nat) (c : Array Value) (t : TypeId) (f : Nat × Nat), (w7.alloc (.cells #[.slice ap lp cp, .slice ar lr cr, .slice an' ln cn] 28)).heap[b]? = some (.cells c t f) → t ≠ 28 → w8.heap[b]? = (w7.alloc (.cells #[.slice ap lp cp, .slice ar lr cr, .slice an' ln cn] 28)).heap[b]? := fun b c t f h1 h2 => hn8 b c t f.1 f.2 h1 h2
        replace hs8 : (w7.alloc (.cells #[.slice ap lp cp, .slice ar lr cr, .slice an' ln cn] 28)).heap.size ≤ w8.heap.size := by rw [hx6]; exact hs8
        obtain ⟨e7, f7, hv8, _⟩ := ho8.lst
        rw [show (l ++ [x]).length = i + 1 from by rw [List.length_append, HLE.out]; rfl] at hv8
        subst hv8
        have hki8 := KI.notO hs8 hn8
        have S0 := HF6.out.bel hb8 HRV.out
        have S1 := S0.set 5 (.slice e7 (i + 1) f7)
        have hk8 := S0.ko 5 (.slice e7 (i + 1) f7)
        have HE2 : Hid (∃ (l : List OnZ) (s' : Option (List Nat)) (v5 : Value), l.length = i + 1 ∧ OwnK V6.heap.size (w8.setCell ⟨O, 5, none⟩ (.slice e7 (i + 1) f7)) v5 l ∧ VcF P O R w (w8.setCell ⟨O, 5, none⟩ (.slice e7 (i + 1) f7)) [.slice a0a n0a k0a, .slice a1a n1a k1a, .int .i64 x2, .slice a3a n3a k3a, .slice a4a n4a k4a, v5, .slice none 0 0, .slice none 0 0, .slice none 0 0, .slice none 0 0, .slice none 0 0, .slice none 0 0] ∧ RF P bs (w8.setCell ⟨O, 5, none⟩ (.slice e7 (i + 1) f7)) R s' ∧ V6.heap.size ≤ (w8.setCell ⟨O, 5, none⟩ (.slice e7 (i + 1) f7)).heap.size ∧ (SlI (w8.setCell ⟨O, 5, none⟩ (.slice e7 (i + 1) f7)) x0 (.slice a0a n0a k0a) ∧ SlI (w8.setCell ⟨O, 5, none⟩ (.slice e7 (i + 1) f7)) x1 (.slice a1a n1a k1a) ∧ OwnI 0 (w8.setCell ⟨O, 5, none⟩ (.slice e7 (i + 1) f7)) (.slice a3a n3a k3a) x3 ∧ SlI (w8.setCell ⟨O, 5, none⟩ (.slice e7 (i + 1) f7)) x4 (.slice a4a n4a k4a)) ∧ (∀ r', s' = some r' → ∃ r0, o = some (m, r0) ∧ rdN rdO r0 (i + 1) = some (l, r')) ∧ (s' = none → T = none)) :=
          ⟨l ++ [x], s2, .slice e7 (i + 1) f7, by rw [List.length_append, HLE.out]; rfl, ho8.ko hk8, S1, S0.rf (Nat.le_refl _) (HR6.out.bel hb8 HRV.out) 5 _, by
            have h1 := hk8.1.1
            omega, q4 (q4 HQ6.out hki8) hk8.1, HREL.out.1, HREL.out.2⟩
        have y5 := S0.c 5
        have f5 := S0.fz 5
        dsimp only [List.getElem?_cons_succ, List.getElem?_cons_zero] at y5
        clear ho8 hb8 hs8 hn8 hki8 S0 S1 hk8 HF6 HW6 HQ6 HR6 hS6 hR6' hN6 hz6 hx6 m2 HREL HS1
        go_wp2_with fail
        go_roundw
        case rel => exact ⟨i + 1, by omega, by go_num, HE2⟩
        case measure => simp [intOf]; omega

end Go.Proofs.YtcajofdmadpmoaaDoor
