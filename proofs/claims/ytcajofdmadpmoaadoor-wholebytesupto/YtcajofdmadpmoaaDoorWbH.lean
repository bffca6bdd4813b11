/- Package whole: a voucher read. -/
import Derived.Test.YtcajofdmadpmoaaDoorWbAL
namespace Go.Proofs.YtcajofdmadpmoaaDoor
open Go.RowKit

/-- what stands in voucher -/
structure VcS (R O : Nat) (w W : World) (l : List Value) : Prop where
  o : W.heap[O]? = some (.cells l.toArray 30 (0, 0))
  g : w.grownBy W (some R)
  hO : w.heap.size ≤ O
  hR : R < w.heap.size
section
variable {R O : Nat} {w W W' : World} {l : List Value}
theorem VcS.step (h : VcS R O w W l) (e : W.grownBy W' (some R)) : VcS R O w W' l :=
  ⟨(gb_blk e (Array.getElem?_eq_some_iff.1 h.o).1 (by have := h.hO; have := h.hR; omega)).trans h.o, gb_trans h.g e, h.hO, h.hR⟩
theorem VcS.set (h : VcS R O w W l) (i : Nat) (x : Value) : VcS R O w (W.setCell ⟨O, i, none⟩ x) (l.set i x) :=
  ⟨by have := set_atW h.o i x; rw [List.setIfInBounds_toArray] at this; exact this, gb_bel h.g ((Below.refl _ _).setCell (p := ⟨O, i, none⟩) h.hO x), h.hO, h.hR⟩
theorem VcS.ko (h : VcS R O w W l) (i : Nat) (x : Value) : KO W (W.setCell ⟨O, i, none⟩ x) :=
  KO.oth h.o (by decide) (by decide) (by decide) (by simp [World.setCell]) (fun b _ hb => Below.heap_setCell _ _ _ _ hb)
theorem VcS.rd (h : VcS R O w W l) {bs : List Nat} (hr : RdW W R bs) (i : Nat) (x : Value) : RdW (W.setCell ⟨O, i, none⟩ x) R bs :=
  hr.blocks (fun b hb => Below.heap_setCell _ _ _ _ (by show b ≠ O; have := h.hO; have := h.hR; omega))
theorem VcS.fz (h : VcS R O w W l) (i : Nat) : W.frozen? ⟨O, i, none⟩ = false := by simp [World.frozen?, h.o]
theorem VcS.c (h : VcS R O w W l) (i : Nat) : W.cell? ⟨O, i, none⟩ = l[i]? := by simp [World.cell?, h.o]
/-- the same voucher, other blocks turned -/
theorem VcS.row (h : VcS R O w W l) : VcS R O w (W.setRow O l.toArray) l :=
  ⟨setRow_heap _ _ _ _ _ _ h.o, gb_bel h.g (below_setRow (Below.refl _ _) h.hO _), h.hO, h.hR⟩
theorem VcS.kor (h : VcS R O w W l) : KO W (W.setRow O l.toArray) :=
  KO.oth h.o (by decide) (by decide) (by decide) (by simp) (fun b _ hb => setRow_other _ _ _ _ hb)
theorem VcS.rdr (h : VcS R O w W l) {bs : List Nat} (hr : RdW W R bs) : RdW (W.setRow O l.toArray) R bs :=
  hr.blocks (fun b hb => setRow_other _ _ _ _ (by have := h.hO; have := h.hR; omega))
end
theorem POn.ko {w w' : World} {v : Value} {o : OnZ} (h : POn w v o) (k : KO w w') : POn w' v o := by
  obtain ⟨vp, vr, vn, e, h1, h2, h3⟩ := h
  exact ⟨vp, vr, vn, e, h1.ki k.1, h2.ki k.1, h3.ki k.1⟩
/-- the lists of numbers and of lists of a voucher that was read -/
structure PVa (w : World) (z : VoZ) (v0 v1 v2 v3 v4 : Value) : Prop where
  h0 : SlI w z.main v0
  h1 : SlI w z.aux v1
  h2 : v2 = .int .i64 z.tries
  h3 : OwnI 0 w v3 z.roots
  h4 : SlI w z.last v4
/-- a voucher that was read -/
def PVo (w : World) (v : Value) (z : VoZ) : Prop := ∃ v0 v1 v2 v3 v4 v5 v6 v7 v8 v9 va vb, v = .agg #[v0, v1, v2, v3, v4, v5, v6, v7, v8, v9, va, vb] ∧ PVa w z v0 v1 v2 v3 v4 ∧ OwnK 0 w v5 z.opens ∧ POn w (.agg #[v6, v7, v8]) z.rows ∧ POn w (.agg #[v9, va, vb]) z.lst
theorem PVa.ko {w w' : World} {z : VoZ} {v0 v1 v2 v3 v4 : Value} (h : PVa w z v0 v1 v2 v3 v4) (k : KO w w') : PVa w' z v0 v1 v2 v3 v4 := ⟨h.h0.ki k.1, h.h1.ki k.1, h.h2, h.h3.ki k.1, h.h4.ki k.1⟩

set_option maxRecDepth 100000 in
set_option maxHeartbeats 8000000 in
theorem voucher_any (R : Nat) (bs : List Nat) (w : World) (h : RdW w R bs) : Calls Tryd.prog 20 #[.pointer (some ⟨R, 0, none⟩)] w (ReE PVo R w (rdV bs)) := by
  have hRl := h.lt
  obtain ⟨O, hO⟩ : ∃ O, O = w.heap.size := ⟨_, rfl⟩
  obtain ⟨W0, hW0⟩ : ∃ W0, W0 = w.alloc (.cells #[.slice none 0 0, .slice none 0 0, .int .i64 0, .slice none 0 0, .slice none 0 0, .slice none 0 0, .slice none 0 0, .slice none 0 0, .slice none 0 0, .slice none 0 0, .slice none 0 0, .slice none 0 0] 30) := ⟨_, rfl⟩
  have hb0 : Below w.heap.size w W0 := by rw [hW0]; exact (Below.refl _ _).alloc (Nat.le_refl _) _
  have hs0 : VcS R O w W0 [.slice none 0 0, .slice none 0 0, .int .i64 0, .slice none 0 0, .slice none 0 0, .slice none 0 0, .slice none 0 0, .slice none 0 0, .slice none 0 0, .slice none 0 0, .slice none 0 0, .slice none 0 0] := ⟨by rw [hW0, hO]; exact heap_alloc_new w _, gb_below hb0, by omega, hRl⟩
  have HC := hid (numbers_any R bs W0 (h.below hb0))
  have HR := hid (h.below hb0)
  have HS := hid hs0
  have HW0 := hid hW0
  have HOE := hid hO
  obtain ⟨T, hT⟩ : ∃ T, T = rdV bs := ⟨_, rfl⟩
  rw [← hT]
  have HT := hid hT
  clear h hb0 hs0 hW0 hO hT
  cases c0 : (rdL rdI) bs with
  | none =>
    have HE : Hid (T = none) := by unfold Hid; rw [HT.out]; simp only [rdV, rdT, c0]
    rw [c0] at HC
    clear c0
    go_enter Tryd.func20, Tryd.ntmps20
    go_wp2_with fail
    rw [← HW0.out]
    refine HC.out.mono ?_
    rintro e wn ⟨hg, rfl⟩
    refine ⟨rfl, (HS.out.step hg).g, ?_⟩
    rw [HE.out]
    rfl
  | some xr0 =>
  obtain ⟨x0, r0⟩ := xr0
  rw [c0] at HC
  go_enter Tryd.func20, Tryd.ntmps20
  go_wp2_with fail
  rw [← HW0.out, ← HOE.out]
  refine HC.out.mono ?_
  rintro e w1 ⟨hg, v0, rfl, hs, h1⟩
  have hs' : SlI w1 x0 v0 := hs
  have hq := hs'
  obtain ⟨a0a, k0a, e0a, _⟩ := hq
  obtain ⟨n0a, hn0a⟩ : ∃ n0a, n0a = x0.length := ⟨_, rfl⟩
  rw [← hn0a] at e0a
  subst e0a
  have S0 := HS.out.step hg
  have S1 := S0.set 0 (.slice a0a n0a k0a)
  have hk2 : KO w1 (w1.setCell ⟨O, 0, none⟩ (.slice a0a n0a k0a)) := S0.ko 0 (.slice a0a n0a k0a)
  have hk := (rd_ko HR.out hg).trans hk2
  have G0 : Hid (SlI (w1.setCell ⟨O, 0, none⟩ (.slice a0a n0a k0a)) x0 (.slice a0a n0a k0a)) := hs'.ki hk2.1
  have y0 := S0.c 0
  have f0 := S0.fz 0
  have HS2 : Hid (VcS R O w (w1.setCell ⟨O, 0, none⟩ (.slice a0a n0a k0a)) [.slice a0a n0a k0a, .slice none 0 0, .int .i64 0, .slice none 0 0, .slice none 0 0, .slice none 0 0, .slice none 0 0, .slice none 0 0, .slice none 0 0, .slice none 0 0, .slice none 0 0, .slice none 0 0]) := S1
  have hr2 := (S0.rd h1 0 (.slice a0a n0a k0a))
  have HC2 := hid (numbers_any R r0 _ hr2)
  have HR2 := hid hr2
  clear HC HR HS S0 S1 hk hk2 hg h1 hr2 HW0 HOE hs' hs hn0a 
  have HC := HC2
  clear HC2
  have HS := HS2
  have HR := HR2
  clear HS2 HR2
  have HF0 := G0
  clear G0
  dsimp only [List.getElem?_cons_succ, List.getElem?_cons_zero, List.set_cons_zero, List.set_cons_succ] at y0
-- stage 1
  cases c1 : (rdL rdI) r0 with
  | none =>
    have HE : Hid (T = none) := by unfold Hid; rw [HT.out]; simp only [rdV, rdT, c0, c1]
    rw [c1] at HC
    clear c0 c1
    go_wp2_with fail
    refine HC.out.mono ?_
    rintro e wn ⟨hg, rfl⟩
    refine ⟨rfl, (HS.out.step hg).g, ?_⟩
    rw [HE.out]
    rfl
  | some xr1 =>
  obtain ⟨x1, r1⟩ := xr1
  rw [c1] at HC
  go_wp2_with fail
  refine HC.out.mono ?_
  rintro e w2 ⟨hg, v1, rfl, hs, h1⟩
  have hs' : SlI w2 x1 v1 := hs
  have hq := hs'
  obtain ⟨a1a, k1a, e1a, _⟩ := hq
  obtain ⟨n1a, hn1a⟩ : ∃ n1a, n1a = x1.length := ⟨_, rfl⟩
  rw [← hn1a] at e1a
  subst e1a
  have S0 := HS.out.step hg
  have S1 := S0.set 1 (.slice a1a n1a k1a)
  have hk2 : KO w2 (w2.setCell ⟨O, 1, none⟩ (.slice a1a n1a k1a)) := S0.ko 1 (.slice a1a n1a k1a)
  have hk := (rd_ko HR.out hg).trans hk2
  have G0 := hid (HF0.out.ki hk.1)
  have G1 : Hid (SlI (w2.setCell ⟨O, 1, none⟩ (.slice a1a n1a k1a)) x1 (.slice a1a n1a k1a)) := hs'.ki hk2.1
  have y0 := S0.c 1
  have f0 := S0.fz 1
  have HS2 : Hid (VcS R O w (w2.setCell ⟨O, 1, none⟩ (.slice a1a n1a k1a)) [.slice a0a n0a k0a, .slice a1a n1a k1a, .int .i64 0, .slice none 0 0, .slice none 0 0, .slice none 0 0, .slice none 0 0, .slice none 0 0, .slice none 0 0, .slice none 0 0, .slice none 0 0, .slice none 0 0]) := S1
  have hr2 := (S0.rd h1 1 (.slice a1a n1a k1a))
  have HC2 := hid (number_any R r1 _ hr2)
  have HR2 := hid hr2
  clear HC HR HS S0 S1 hk hk2 hg h1 hr2 hs' hs hn1a HF0
  have HC := HC2
  clear HC2
  have HS := HS2
  have HR := HR2
  clear HS2 HR2
  have HF0 := G0
  clear G0
  have HF1 := G1
  clear G1
  dsimp only [List.getElem?_cons_succ, List.getElem?_cons_zero, List.set_cons_zero, List.set_cons_succ] at y0
-- stage 2
  cases c2 : rdI r1 with
  | none =>
    have HE : Hid (T = none) := by unfold Hid; rw [HT.out]; simp only [rdV, rdT, c0, c1, c2]
    rw [c2] at HC
    clear c0 c1 c2
    go_wp2_with fail
    refine HC.out.mono ?_
    rintro e wn ⟨hg, rfl⟩
    refine ⟨rfl, (HS.out.step hg).g, ?_⟩
    rw [HE.out]
    rfl
  | some xr2 =>
  obtain ⟨x2, r2⟩ := xr2
  rw [c2] at HC
  go_wp2_with fail
  refine HC.out.mono ?_
  rintro e w3 ⟨hg, rfl, h1⟩
  have S0 := HS.out.step hg
  have S1 := S0.set 2 (.int .i64 x2)
  have hk2 : KO w3 (w3.setCell ⟨O, 2, none⟩ (.int .i64 x2)) := S0.ko 2 (.int .i64 x2)
  have hk := (rd_ko HR.out hg).trans hk2
  have G0 := hid (HF0.out.ki hk.1)
  have G1 := hid (HF1.out.ki hk.1)
  have y0 := S0.c 2
  have f0 := S0.fz 2
  have HS2 : Hid (VcS R O w (w3.setCell ⟨O, 2, none⟩ (.int .i64 x2)) [.slice a0a n0a k0a, .slice a1a n1a k1a, .int .i64 x2, .slice none 0 0, .slice none 0 0, .slice none 0 0, .slice none 0 0, .slice none 0 0, .slice none 0 0, .slice none 0 0, .slice none 0 0, .slice none 0 0]) := S1
  have hr2 := (S0.rd h1 2 (.int .i64 x2))
  have HC2 := hid (readRows_any R r2 _ hr2)
  have HR2 := hid hr2
  clear HC HR HS S0 S1 hk hk2 hg h1 hr2 HF0 HF1
  have HC := HC2
  clear HC2
  have HS := HS2
  have HR := HR2
  clear HS2 HR2
  have HF0 := G0
  clear G0
  have HF1 := G1
  clear G1
  dsimp only [List.getElem?_cons_succ, List.getElem?_cons_zero, List.set_cons_zero, List.set_cons_succ] at y0
-- stage 3
  cases c3 : (rdL (rdL rdI)) r2 with
  | none =>
    have HE : Hid (T = none) := by unfold Hid; rw [HT.out]; simp only [rdV, rdT, c0, c1, c2, c3]
    rw [c3] at HC
    clear c0 c1 c2 c3
    go_wp2_with fail
    refine HC.out.mono ?_
    rintro e wn ⟨hg, rfl⟩
    refine ⟨rfl, (HS.out.step hg).g, ?_⟩
    rw [HE.out]
    rfl
  | some xr3 =>
  obtain ⟨x3, r3⟩ := xr3
  rw [c3] at HC
  go_wp2_with fail
  refine HC.out.mono ?_
  rintro e w4 ⟨hg, v3, rfl, hs, h1⟩
  have hs' : OwnI 0 w4 v3 x3 := hs
  have hq := hs'.lst
  obtain ⟨a3a, k3a, e3a, _⟩ := hq
  obtain ⟨n3a, hn3a⟩ : ∃ n3a, n3a = x3.length := ⟨_, rfl⟩
  rw [← hn3a] at e3a
  subst e3a
  have S0 := HS.out.step hg
  have S1 := S0.set 3 (.slice a3a n3a k3a)
  have hk2 : KO w4 (w4.setCell ⟨O, 3, none⟩ (.slice a3a n3a k3a)) := S0.ko 3 (.slice a3a n3a k3a)
  have hk := (rd_ko HR.out hg).trans hk2
  have G0 := hid (HF0.out.ki hk.1)
  have G1 := hid (HF1.out.ki hk.1)
  have G2 : Hid (OwnI 0 (w4.setCell ⟨O, 3, none⟩ (.slice a3a n3a k3a)) (.slice a3a n3a k3a) x3) := hs'.ki hk2.1
  have y0 := S0.c 3
  have f0 := S0.fz 3
  have HS2 : Hid (VcS R O w (w4.setCell ⟨O, 3, none⟩ (.slice a3a n3a k3a)) [.slice a0a n0a k0a, .slice a1a n1a k1a, .int .i64 x2, .slice a3a n3a k3a, .slice none 0 0, .slice none 0 0, .slice none 0 0, .slice none 0 0, .slice none 0 0, .slice none 0 0, .slice none 0 0, .slice none 0 0]) := S1
  have hr2 := (S0.rd h1 3 (.slice a3a n3a k3a))
  have HC2 := hid (numbers_any R r3 _ hr2)
  have HR2 := hid hr2
  clear HC HR HS S0 S1 hk hk2 hg h1 hr2 hs' hs hn3a HF0 HF1
  have HC := HC2
  clear HC2
  have HS := HS2
  have HR := HR2
  clear HS2 HR2
  have HF0 := G0
  clear G0
  have HF1 := G1
  clear G1
  have HF2 := G2
  clear G2
  dsimp only [List.getElem?_cons_succ, List.getElem?_cons_zero, List.set_cons_zero, List.set_cons_succ] at y0
-- stage 4
  cases c4 : (rdL rdI) r3 with
  | none =>
    have HE : Hid (T = none) := by unfold Hid; rw [HT.out]; simp only [rdV, rdT, c0, c1, c2, c3, c4]
    rw [c4] at HC
    clear c0 c1 c2 c3 c4
    go_wp2_with fail
    refine HC.out.mono ?_
    rintro e wn ⟨hg, rfl⟩
    refine ⟨rfl, (HS.out.step hg).g, ?_⟩
    rw [HE.out]
    rfl
  | some xr4 =>
  obtain ⟨x4, r4⟩ := xr4
  rw [c4] at HC
  go_wp2_with fail
  refine HC.out.mono ?_
  rintro e w5 ⟨hg, v4, rfl, hs, h1⟩
  have hs' : SlI w5 x4 v4 := hs
  have hq := hs'
  obtain ⟨a4a, k4a, e4a, _⟩ := hq
  obtain ⟨n4a, hn4a⟩ : ∃ n4a, n4a = x4.length := ⟨_, rfl⟩
  rw [← hn4a] at e4a
  subst e4a
  have S0 := HS.out.step hg
  have S1 := S0.set 4 (.slice a4a n4a k4a)
  have hk2 : KO w5 (w5.setCell ⟨O, 4, none⟩ (.slice a4a n4a k4a)) := S0.ko 4 (.slice a4a n4a k4a)
  have hk := (rd_ko HR.out hg).trans hk2
  have G0 := hid (HF0.out.ki hk.1)
  have G1 := hid (HF1.out.ki hk.1)
  have G2 := hid (HF2.out.ki hk.1)
  have G3 : Hid (SlI (w5.setCell ⟨O, 4, none⟩ (.slice a4a n4a k4a)) x4 (.slice a4a n4a k4a)) := hs'.ki hk2.1
  have y0 := S0.c 4
  have f0 := S0.fz 4
  have HS2 : Hid (VcS R O w (w5.setCell ⟨O, 4, none⟩ (.slice a4a n4a k4a)) [.slice a0a n0a k0a, .slice a1a n1a k1a, .int .i64 x2, .slice a3a n3a k3a, .slice a4a n4a k4a, .slice none 0 0, .slice none 0 0, .slice none 0 0, .slice none 0 0, .slice none 0 0, .slice none 0 0, .slice none 0 0]) := S1
  have hr2 := (S0.rd h1 4 (.slice a4a n4a k4a))
  have HC2 := hid (readOpens_any R r4 _ hr2)
  have HR2 := hid hr2
  clear HC HR HS S0 S1 hk hk2 hg h1 hr2 hs' hs hn4a HF0 HF1 HF2
  have HC := HC2
  clear HC2
  have HS := HS2
  have HR := HR2
  clear HS2 HR2
  have HF0 := G0
  clear G0
  have HF1 := G1
  clear G1
  have HF2 := G2
  clear G2
  have HF3 := G3
  clear G3
  dsimp only [List.getElem?_cons_succ, List.getElem?_cons_zero, List.set_cons_zero, List.set_cons_succ] at y0
-- stage 5
  cases c5 : (rdL rdO) r4 with
  | none =>
    have HE : Hid (T = none) := by unfold Hid; rw [HT.out]; simp only [rdV, rdT, c0, c1, c2, c3, c4, c5]
    rw [c5] at HC
    clear c0 c1 c2 c3 c4 c5
    go_wp2_with fail
    refine HC.out.mono ?_
    rintro e wn ⟨hg, rfl⟩
    refine ⟨rfl, (HS.out.step hg).g, ?_⟩
    rw [HE.out]
    rfl
  | some xr5 =>
  obtain ⟨x5, r5⟩ := xr5
  rw [c5] at HC
  go_wp2_with fail
  refine HC.out.mono ?_
  rintro e w6 ⟨hg, v5, rfl, hs, h1⟩
  have hs' : OwnK 0 w6 v5 x5 := hs
  have hq := hs'.lst
  obtain ⟨a5a, k5a, e5a, _⟩ := hq
  obtain ⟨n5a, hn5a⟩ : ∃ n5a, n5a = x5.length := ⟨_, rfl⟩
  rw [← hn5a] at e5a
  subst e5a
  have S0 := HS.out.step hg
  have S1 := S0.set 5 (.slice a5a n5a k5a)
  have hk2 : KO w6 (w6.setCell ⟨O, 5, none⟩ (.slice a5a n5a k5a)) := S0.ko 5 (.slice a5a n5a k5a)
  have hk := (rd_ko HR.out hg).trans hk2
  have G0 := hid (HF0.out.ki hk.1)
  have G1 := hid (HF1.out.ki hk.1)
  have G2 := hid (HF2.out.ki hk.1)
  have G3 := hid (HF3.out.ki hk.1)
  have G4 : Hid (OwnK 0 (w6.setCell ⟨O, 5, none⟩ (.slice a5a n5a k5a)) (.slice a5a n5a k5a) x5) := hs'.ko hk2
  have y0 := S0.c 5
  have f0 := S0.fz 5
  have HS2 : Hid (VcS R O w (w6.setCell ⟨O, 5, none⟩ (.slice a5a n5a k5a)) [.slice a0a n0a k0a, .slice a1a n1a k1a, .int .i64 x2, .slice a3a n3a k3a, .slice a4a n4a k4a, .slice a5a n5a k5a, .slice none 0 0, .slice none 0 0, .slice none 0 0, .slice none 0 0, .slice none 0 0, .slice none 0 0]) := S1
  have hr2 := (S0.rd h1 5 (.slice a5a n5a k5a))
  have HC2 := hid (opening_any R r5 _ hr2)
  have HR2 := hid hr2
  clear HC HR HS S0 S1 hk hk2 hg h1 hr2 hs' hs hn5a HF0 HF1 HF2 HF3
  have HC := HC2
  clear HC2
  have HS := HS2
  have HR := HR2
  clear HS2 HR2
  have HF0 := G0
  clear G0
  have HF1 := G1
  clear G1
  have HF2 := G2
  clear G2
  have HF3 := G3
  clear G3
  have HF4 := G4
  clear G4
  dsimp only [List.getElem?_cons_succ, List.getElem?_cons_zero, List.set_cons_zero, List.set_cons_succ] at y0
-- stage 6
  cases c6 : rdO r5 with
  | none =>
    have HE : Hid (T = none) := by unfold Hid; rw [HT.out]; simp only [rdV, rdT, c0, c1, c2, c3, c4, c5, c6]
    rw [c6] at HC
    clear c0 c1 c2 c3 c4 c5 c6
    go_wp2_with fail
    refine HC.out.mono ?_
    rintro e wn ⟨hg, rfl⟩
    refine ⟨rfl, (HS.out.step hg).g, ?_⟩
    rw [HE.out]
    rfl
  | some xr6 =>
  obtain ⟨x6, r6⟩ := xr6
  rw [c6] at HC
  go_wp2_with fail
  refine HC.out.mono ?_
  rintro e w7 ⟨hg, v6, rfl, hs, h1⟩
  obtain ⟨vp6, vr6, vn6, rfl, p1, p2, p3⟩ := hs
  have hs' : POn w7 (.agg #[vp6, vr6, vn6]) x6 := ⟨_, _, _, rfl, p1, p2, p3⟩
  have hq := p1
  obtain ⟨a6a, k6a, e6a, _⟩ := hq
  obtain ⟨n6a, hn6a⟩ : ∃ n6a, n6a = x6.ps.length := ⟨_, rfl⟩
  rw [← hn6a] at e6a
  subst e6a
  have hq := p2.lst
  obtain ⟨a6b, k6b, e6b, _⟩ := hq
  obtain ⟨n6b, hn6b⟩ : ∃ n6b, n6b = x6.rows.length := ⟨_, rfl⟩
  rw [← hn6b] at e6b
  subst e6b
  have hq := p3.lst
  obtain ⟨a6c, k6c, e6c, _⟩ := hq
  obtain ⟨n6c, hn6c⟩ : ∃ n6c, n6c = x6.nodes.length := ⟨_, rfl⟩
  rw [← hn6c] at e6c
  subst e6c
  have S0 := HS.out.step hg
  have S1 := S0.set 6 (.slice a6a n6a k6a)
  have S2 := S1.set 7 (.slice a6b n6b k6b)
  have S3 := S2.set 8 (.slice a6c n6c k6c)
  have hk2 : KO w7 (((w7.setCell ⟨O, 6, none⟩ (.slice a6a n6a k6a)).setCell ⟨O, 7, none⟩ (.slice a6b n6b k6b)).setCell ⟨O, 8, none⟩ (.slice a6c n6c k6c)) := ((S0.ko 6 (.slice a6a n6a k6a)).trans (S1.ko 7 (.slice a6b n6b k6b))).trans (S2.ko 8 (.slice a6c n6c k6c))
  have hk := (rd_ko HR.out hg).trans hk2
  have G0 := hid (HF0.out.ki hk.1)
  have G1 := hid (HF1.out.ki hk.1)
  have G2 := hid (HF2.out.ki hk.1)
  have G3 := hid (HF3.out.ki hk.1)
  have G4 := hid (HF4.out.ko hk)
  have G5 : Hid (POn (((w7.setCell ⟨O, 6, none⟩ (.slice a6a n6a k6a)).setCell ⟨O, 7, none⟩ (.slice a6b n6b k6b)).setCell ⟨O, 8, none⟩ (.slice a6c n6c k6c)) (.agg #[.slice a6a n6a k6a, .slice a6b n6b k6b, .slice a6c n6c k6c]) x6) := hs'.ko hk2
  have y0 := S0.c 6
  have f0 := S0.fz 6
  have y1 := S1.c 7
  have f1 := S1.fz 7
  have y2 := S2.c 8
  have f2 := S2.fz 8
  have HS2 : Hid (VcS R O w (((w7.setCell ⟨O, 6, none⟩ (.slice a6a n6a k6a)).setCell ⟨O, 7, none⟩ (.slice a6b n6b k6b)).setCell ⟨O, 8, none⟩ (.slice a6c n6c k6c)) [.slice a0a n0a k0a, .slice a1a n1a k1a, .int .i64 x2, .slice a3a n3a k3a, .slice a4a n4a k4a, .slice a5a n5a k5a, .slice a6a n6a k6a, .slice a6b n6b k6b, .slice a6c n6c k6c, .slice none 0 0, .slice none 0 0, .slice none 0 0]) := S3
  have hr2 := (S2.rd (S1.rd (S0.rd h1 6 (.slice a6a n6a k6a)) 7 (.slice a6b n6b k6b)) 8 (.slice a6c n6c k6c))
  have HC2 := hid (opening_any R r6 _ hr2)
  have HR2 := hid hr2
  clear HC HR HS S0 S1 S2 S3 hk hk2 hg h1 hr2 hs' p1 p2 p3 hn6a hn6b hn6c HF0 HF1 HF2 HF3 HF4
  have HC := HC2
  clear HC2
  have HS := HS2
  have HR := HR2
  clear HS2 HR2
  have HF0 := G0
  clear G0
  have HF1 := G1
  clear G1
  have HF2 := G2
  clear G2
  have HF3 := G3
  clear G3
  have HF4 := G4
  clear G4
  have HF5 := G5
  clear G5
  dsimp only [List.getElem?_cons_succ, List.getElem?_cons_zero, List.set_cons_zero, List.set_cons_succ] at y0 y1 y2
-- stage 7
  cases c7 : rdO r6 with
  | none =>
    have HE : Hid (T = none) := by unfold Hid; rw [HT.out]; simp only [rdV, rdT, c0, c1, c2, c3, c4, c5, c6, c7]
    rw [c7] at HC
    clear c0 c1 c2 c3 c4 c5 c6 c7
    go_wp2_with fail
    refine HC.out.mono ?_
    rintro e wn ⟨hg, rfl⟩
    refine ⟨rfl, (HS.out.step hg).g, ?_⟩
    rw [HE.out]
    rfl
  | some xr7 =>
  obtain ⟨x7, r7⟩ := xr7
  rw [c7] at HC
  go_wp2_with fail
  refine HC.out.mono ?_
  rintro e w8 ⟨hg, v7, rfl, hs, h1⟩
  obtain ⟨vp7, vr7, vn7, rfl, p1, p2, p3⟩ := hs
  have hs' : POn w8 (.agg #[vp7, vr7, vn7]) x7 := ⟨_, _, _, rfl, p1, p2, p3⟩
  have hq := p1
  obtain ⟨a7a, k7a, e7a, _⟩ := hq
  obtain ⟨n7a, hn7a⟩ : ∃ n7a, n7a = x7.ps.length := ⟨_, rfl⟩
  rw [← hn7a] at e7a
  subst e7a
  have hq := p2.lst
  obtain ⟨a7b, k7b, e7b, _⟩ := hq
  obtain ⟨n7b, hn7b⟩ : ∃ n7b, n7b = x7.rows.length := ⟨_, rfl⟩
  rw [← hn7b] at e7b
  subst e7b
  have hq := p3.lst
  obtain ⟨a7c, k7c, e7c, _⟩ := hq
  obtain ⟨n7c, hn7c⟩ : ∃ n7c, n7c = x7.nodes.length := ⟨_, rfl⟩
  rw [← hn7c] at e7c
  subst e7c
  have S0 := HS.out.step hg
  have S1 := S0.set 9 (.slice a7a n7a k7a)
  have S2 := S1.set 10 (.slice a7b n7b k7b)
  have S3 := S2.set 11 (.slice a7c n7c k7c)
  have hk2 : KO w8 (((w8.setCell ⟨O, 9, none⟩ (.slice a7a n7a k7a)).setCell ⟨O, 10, none⟩ (.slice a7b n7b k7b)).setCell ⟨O, 11, none⟩ (.slice a7c n7c k7c)) := ((S0.ko 9 (.slice a7a n7a k7a)).trans (S1.ko 10 (.slice a7b n7b k7b))).trans (S2.ko 11 (.slice a7c n7c k7c))
  have hk := (rd_ko HR.out hg).trans hk2
  have G0 := hid (HF0.out.ki hk.1)
  have G1 := hid (HF1.out.ki hk.1)
  have G2 := hid (HF2.out.ki hk.1)
  have G3 := hid (HF3.out.ki hk.1)
  have G4 := hid (HF4.out.ko hk)
  have G5 := hid (HF5.out.ko hk)
  have G6 : Hid (POn (((w8.setCell ⟨O, 9, none⟩ (.slice a7a n7a k7a)).setCell ⟨O, 10, none⟩ (.slice a7b n7b k7b)).setCell ⟨O, 11, none⟩ (.slice a7c n7c k7c)) (.agg #[.slice a7a n7a k7a, .slice a7b n7b k7b, .slice a7c n7c k7c]) x7) := hs'.ko hk2
  have y0 := S0.c 9
  have f0 := S0.fz 9
  have y1 := S1.c 10
  have f1 := S1.fz 10
  have y2 := S2.c 11
  have f2 := S2.fz 11
  have HS2 : Hid (VcS R O w (((w8.setCell ⟨O, 9, none⟩ (.slice a7a n7a k7a)).setCell ⟨O, 10, none⟩ (.slice a7b n7b k7b)).setCell ⟨O, 11, none⟩ (.slice a7c n7c k7c)) [.slice a0a n0a k0a, .slice a1a n1a k1a, .int .i64 x2, .slice a3a n3a k3a, .slice a4a n4a k4a, .slice a5a n5a k5a, .slice a6a n6a k6a, .slice a6b n6b k6b, .slice a6c n6c k6c, .slice a7a n7a k7a, .slice a7b n7b k7b, .slice a7c n7c k7c]) := S3
  have HR2 := hid (S2.rd (S1.rd (S0.rd h1 9 (.slice a7a n7a k7a)) 10 (.slice a7b n7b k7b)) 11 (.slice a7c n7c k7c))
  clear HC HR HS S0 S1 S2 S3 hk hk2 hg h1 hs' p1 p2 p3 hn7a hn7b hn7c HF0 HF1 HF2 HF3 HF4 HF5
  have HS := HS2
  have HR := HR2
  clear HS2 HR2
  have HF0 := G0
  clear G0
  have HF1 := G1
  clear G1
  have HF2 := G2
  clear G2
  have HF3 := G3
  clear G3
  have HF4 := G4
  clear G4
  have HF5 := G5
  clear G5
  have HF6 := G6
  clear G6
  dsimp only [List.getElem?_cons_succ, List.getElem?_cons_zero, List.set_cons_zero, List.set_cons_succ] at y0 y1 y2
  go_wp2_with (first
    | (refine wpList_load_row rfl 30 _ rfl O rfl _ _ _ _ HS.out.o Tryd.underlying30 rfl (by kernel_rfl) ?_)
    | (refine wpList_store_row rfl 30 _ _ rfl O [.slice a0a n0a k0a, .slice a1a n1a k1a, .int .i64 x2, .slice a3a n3a k3a, .slice a4a n4a k4a, .slice a5a n5a k5a, .slice a6a n6a k6a, .slice a6b n6b k6b, .slice a6c n6c k6c, .slice a7a n7a k7a, .slice a7b n7b k7b, .slice a7c n7c k7c].toArray rfl rfl _ _ HS.out.o (by kernel_rfl) rfl (by simp [Value.oneCell']) ?_))
  have S1 := HS.out.row
  refine bodyPost_ret (results_cell_row rfl _ _ O 30 _ (0, 0) _ rfl S1.o Tryd.underlying30 rfl (by kernel_rfl)) rfl ?_
  refine ⟨S1.g, ?_⟩
  have hT : T = some (⟨x0, x1, x2, x3, x4, x5, x6, x7⟩, r7) := by rw [HT.out]; simp only [rdV, rdT, c0, c1, c2, c3, c4, c5, c6, c7]
  rw [hT]
  have k := HS.out.kor
  exact ⟨_, rfl, ⟨_, _, _, _, _, _, _, _, _, _, _, _, rfl, ⟨HF0.out.ki k.1, HF1.out.ki k.1, rfl, HF2.out.ki k.1, HF3.out.ki k.1⟩, HF4.out.ko k, HF5.out.ko k, HF6.out.ko k⟩, HS.out.rdr HR.out⟩

end Go.Proofs.YtcajofdmadpmoaaDoor
