/- A stack of chains on both sides. -/
import Derived.Test.YtgjkakfkefpgbafDoorChnF
import Derived.Test.YtgjkakfkefpgbafDoorChnD
namespace Go.Proofs.YtgjkakfkefpgbafDoor
open Go.RowKit

def lsn (f : Nat → Nat) (k : Nat) : List Nat := (List.range k).map f
theorem lsn_len (f : Nat → Nat) (k : Nat) : (lsn f k).length = k := by simp [lsn]
theorem lsn_at (f : Nat → Nat) (k j : Nat) (h : j < k) : (lsn f k).getD j 0 = f j := by simp [lsn, h]
theorem lsn_succ (f : Nat → Nat) (k : Nat) : lsn f (k + 1) = lsn f k ++ [f k] := by simp [lsn, List.range_succ]
theorem lsn_take (f : Nat → Nat) (k : Nat) : (lsn f (k + 1)).take k = lsn f k := by rw [lsn_succ]; simp [lsn]
theorem lsn_congr {f g : Nat → Nat} {k : Nat} (h : ∀ j, j < k → f j = g j) : lsn f k = lsn g k := by
  unfold lsn
  apply List.map_congr_left
  intro j hj
  exact h j (List.mem_range.1 hj)
def upn {α : Type} (f : Nat → α) (i : Nat) (x : α) : Nat → α := fun j => if j = i then x else f j
theorem upn_same {α : Type} (f : Nat → α) (i : Nat) (x : α) : upn f i x i = x := by simp [upn]
theorem upn_ne {α : Type} (f : Nat → α) {i j : Nat} (x : α) (h : j ≠ i) : upn f i x j = f j := by simp [upn, h]

/-- chains, one behind the other, on both sides -/
structure Chs (N0 q n m : Nat) (c r : Nat → Nat) (D : Nat → List Int) (W : World) : Prop where
  pc : ∀ i, i ≤ m → PCh N0 q n W (c i) (D i)
  rc : ∀ i, i ≤ m → RCh q W (r i) (D i)
  dg : ∀ i, i ≤ m → Dig (D i)
  ge : ∀ i, i ≤ m → N0 ≤ r i
  asc : ∀ i j, i < j → j ≤ m → c i < c j ∧ r i < r j
theorem Chs.below {N0 q n m : Nat} {c r : Nat → Nat} {D : Nat → List Int} {W W' : World} (h : Chs N0 q n m c r D W) (e : Below W.heap.size W W') : Chs N0 q n m c r D W' :=
  ⟨fun i hi => (h.pc i hi).below e, fun i hi => (h.rc i hi).below e, h.dg, h.ge, h.asc⟩
theorem PCh.typ {N0 q n : Nat} {w : World} {c : Nat} {D : List Int} (h : PCh N0 q n w c D) : ∃ cs f, w.heap[c]? = some (.cells cs 53 f) := by
  obtain ⟨s, b, d, _, _, _, _, _, h6⟩ := h
  exact ⟨_, _, h6⟩
theorem RCh.typ {q : Nat} {w : World} {r : Nat} {D : List Int} (h : RCh q w r D) : ∃ cs f, w.heap[r]? = some (.cells cs 37 f) := by
  obtain ⟨_, _, h, _⟩ := h
  exact ⟨_, _, h⟩
theorem typ_ne {w : World} {a b : Nat} {cs ds : Array Value} {t u : TypeId} {f g : Nat × Nat} (h : w.heap[a]? = some (.cells cs t f)) (k : w.heap[b]? = some (.cells ds u g)) (hne : t ≠ u) : a ≠ b := fun e => by
  rw [e, k] at h
  cases h
  exact hne rfl
/-- a row of pointers is written into -/
theorem Chs.row {N0 q n m : Nat} {c r : Nat → Nat} {D : Nat → List Int} {W W' : World} {g : Nat} {t : TypeId} (h : Chs N0 q n m c r D W) (e : W.grownBy W' (some g)) (hg : ∃ cur f, W.heap[g]? = some (.cells cur t f)) (h1 : t ≠ 53) (h2 : t ≠ 37) (h3 : t ≠ 3) (hN : N0 ≤ g) : Chs N0 q n m c r D W' := by
  obtain ⟨cur, f, hg⟩ := hg
  refine ⟨fun i hi => ?_, fun i hi => ?_, h.dg, h.ge, h.asc⟩
  · obtain ⟨cs, f', hc⟩ := (h.pc i hi).typ
    refine (h.pc i hi).blocks (gb_blk e (h.pc i hi).lt (typ_ne hc hg h1.symm)) (fun b hb => gb_blk e ?_ (by omega))
    have := (h.pc i hi).ge
    have := (h.pc i hi).lt
    omega
  · obtain ⟨cs, f', hc⟩ := (h.rc i hi).typ
    exact (h.rc i hi).blocks e.size (gb_blk e (h.rc i hi).lt (typ_ne hc hg h2.symm)) (fun b cs f hb => gb_blk e (Array.getElem?_eq_some_iff.1 hb).1 (typ_ne hb hg h3.symm))
/-- the last ones turn -/
theorem Chs.turn {N0 q n m : Nat} {c r : Nat → Nat} {D : Nat → List Int} {W W' : World} {E : List Int} (h : Chs N0 q n m c r D W) (hE : Dig E) (hP : PCh N0 q n W' (c m) E) (hR : RCh q W' (r m) E) (hp : Pair (c m) (r m) W W') : Chs N0 q n m c r (upn D m E) W' := by
  obtain ⟨cs, f, hc⟩ := (h.pc m (Nat.le_refl _)).typ
  obtain ⟨ds, f2, hr⟩ := (h.rc m (Nat.le_refl _)).typ
  have hcg := (h.pc m (Nat.le_refl _)).ge
  have hrg := h.ge m (Nat.le_refl _)
  refine ⟨fun i hi => ?_, fun i hi => ?_, fun i hi => ?_, h.ge, h.asc⟩
  · by_cases him : i = m
    · subst him; rw [upn_same]; exact hP
    · rw [upn_ne _ _ him]
      have ha := (h.asc i m (by omega) (Nat.le_refl _)).1
      obtain ⟨cs', f', hc'⟩ := (h.pc i hi).typ
      refine (h.pc i hi).blocks (hp.block _ (h.pc i hi).lt (by omega) (typ_ne hc' hr (by decide))) (fun b hb => hp.block _ ?_ (by omega) (by omega))
      have := (h.pc i hi).ge
      have := (h.pc i hi).lt
      omega
  · by_cases him : i = m
    · subst him; rw [upn_same]; exact hR
    · rw [upn_ne _ _ him]
      have ha := (h.asc i m (by omega) (Nat.le_refl _)).2
      obtain ⟨cs', f', hc'⟩ := (h.rc i hi).typ
      exact (h.rc i hi).blocks hp.size (hp.block _ (h.rc i hi).lt (typ_ne hc' hc (by decide)) (by omega)) (fun b cs f hb => hp.block _ (Array.getElem?_eq_some_iff.1 hb).1 (typ_ne hb hc (by decide)) (typ_ne hb hr (by decide)))
  · by_cases him : i = m
    · subst him; rw [upn_same]; exact hE
    · rw [upn_ne _ _ him]; exact h.dg i hi
/-- one more -/
theorem Chs.push {N0 q n m : Nat} {c r : Nat → Nat} {D : Nat → List Int} {W : World} {c' r' : Nat} (h : Chs N0 q n m c r D W) (hP : PCh N0 q n W c' (D m)) (hR : RCh q W r' (D m)) (hc : ∀ i, i ≤ m → c i < c') (hr : ∀ i, i ≤ m → r i < r') : Chs N0 q n (m + 1) (upn c (m + 1) c') (upn r (m + 1) r') (upn D (m + 1) (D m)) W := by
  refine ⟨fun i hi => ?_, fun i hi => ?_, fun i hi => ?_, fun i hi => ?_, fun i j hij hj => ?_⟩
  · by_cases him : i = m + 1
    · subst him; rw [upn_same, upn_same]; exact hP
    · rw [upn_ne _ _ him, upn_ne _ _ him]; exact h.pc i (by omega)
  · by_cases him : i = m + 1
    · subst him; rw [upn_same, upn_same]; exact hR
    · rw [upn_ne _ _ him, upn_ne _ _ him]; exact h.rc i (by omega)
  · by_cases him : i = m + 1
    · subst him; rw [upn_same]; exact h.dg m (Nat.le_refl _)
    · rw [upn_ne _ _ him]; exact h.dg i (by omega)
  · by_cases him : i = m + 1
    · subst him; rw [upn_same]; have := hr m (Nat.le_refl _); have := h.ge m (Nat.le_refl _); omega
    · rw [upn_ne _ _ him]; exact h.ge i (by omega)
  · rw [upn_ne c _ (show i ≠ m + 1 by omega), upn_ne r _ (show i ≠ m + 1 by omega)]
    by_cases hjm : j = m + 1
    · subst hjm; rw [upn_same, upn_same]; exact ⟨hc i (by omega), hr i (by omega)⟩
    · rw [upn_ne _ _ hjm, upn_ne _ _ hjm]; exact h.asc i j hij (by omega)
theorem Chs.pop {N0 q n m : Nat} {c r : Nat → Nat} {D : Nat → List Int} {W : World} (h : Chs N0 q n (m + 1) c r D W) : Chs N0 q n m c r D W :=
  ⟨fun i hi => h.pc i (by omega), fun i hi => h.rc i (by omega), fun i hi => h.dg i (by omega), fun i hi => h.ge i (by omega), fun i j h1 h2 => h.asc i j h1 (by omega)⟩

theorem OwnP.blk {base : Nat} {w w' : World} {t : TypeId} {v : Value} {cs : List Nat} (h : OwnP base w t v cs) (e : ∀ g, v.ownBlock = some g → w'.heap[g]? = w.heap[g]?) : OwnP base w' t v cs := by
  obtain ⟨h1, h2⟩ := h
  refine ⟨h1, ?_⟩
  rcases h2 with h2 | ⟨g, cap, cur, rfl, hb, hg, hr⟩
  · exact .inl h2
  · exact .inr ⟨g, cap, cur, rfl, hb, (e g rfl).trans hg, hr⟩

/-- what stands in a round of ChainDraws -/
structure StD (N0 q n m : Nat) (c r : Nat → Nat) (D : Nat → List Int) (lv mv : Value) (w W : World) : Prop where
  chs : Chs N0 q n m c r D W
  l : OwnP N0 W 27 lv (lsn c (m + 1))
  m : OwnP N0 W 29 mv (lsn r (m + 1))
  bel : Below w.heap.size w W
  lo : w.heap.size ≤ N0
theorem StD.below {N0 q n m : Nat} {c r : Nat → Nat} {D : Nat → List Int} {lv mv : Value} {w W W' : World} (h : StD N0 q n m c r D lv mv w W) (e : Below W.heap.size W W') : StD N0 q n m c r D lv mv w W' :=
  ⟨h.chs.below e, h.l.below e, h.m.below e, h.bel.trans (e.mono h.bel.size), h.lo⟩
/-- the two rows -/
structure StF (m : Nat) (c r : Nat → Nat) (gl cl gm cm : Nat) (W : World) : Prop where
  l : W.cell? ⟨gl, m, none⟩ = some (.pointer (some ⟨c m, 0, none⟩))
  mm : W.cell? ⟨gm, m, none⟩ = some (.pointer (some ⟨r m, 0, none⟩))
  lb : gl < W.heap.size ∧ ∃ cur f, W.heap[gl]? = some (.cells cur 27 f)
  mb : gm < W.heap.size ∧ ∃ cur f, W.heap[gm]? = some (.cells cur 29 f)
  lc : m + 1 ≤ cl
  mc : m + 1 ≤ cm
theorem StD.form {N0 q n m : Nat} {c r : Nat → Nat} {D : Nat → List Int} {lv mv : Value} {w W : World} (h : StD N0 q n m c r D lv mv w W) : ∃ gl cl gm cm, lv = .slice (some ⟨gl, 0, none⟩) (m + 1) cl ∧ mv = .slice (some ⟨gm, 0, none⟩) (m + 1) cm ∧ N0 ≤ gl ∧ N0 ≤ gm ∧ StF m c r gl cl gm cm W := by
  obtain ⟨gl, cl, e1, h1, h2, _, h3, h4, h5⟩ := h.l.form (by rw [lsn_len]; omega)
  obtain ⟨gm, cm, e2, k1, k2, _, k3, k4, k5⟩ := h.m.form (by rw [lsn_len]; omega)
  rw [lsn_len] at e1 e2 h4 k4
  have h6 := h5 m (by rw [lsn_len]; omega)
  have k6 := k5 m (by rw [lsn_len]; omega)
  rw [lsn_at _ _ _ (by omega)] at h6 k6
  exact ⟨gl, cl, gm, cm, e1, e2, h1, k1, h6, k6, ⟨h2, h3⟩, ⟨k2, k3⟩, h4, k4⟩
theorem StF.below {m : Nat} {c r : Nat → Nat} {gl cl gm cm : Nat} {W W' : World} (h : StF m c r gl cl gm cm W) (e : Below W.heap.size W W') : StF m c r gl cl gm cm W' := by
  obtain ⟨h1, h2, ⟨h3, cur, f, h4⟩, ⟨h5, cur2, f2, h6⟩, h7, h8⟩ := h
  have := e.size
  exact ⟨(e.cell (p := ⟨gl, m, none⟩) h3).trans h1, (e.cell (p := ⟨gm, m, none⟩) h5).trans h2, ⟨by omega, cur, f, (e.block _ h3).trans h4⟩, ⟨by omega, cur2, f2, (e.block _ h5).trans h6⟩, h7, h8⟩
/-- a step on both sides -/
theorem StD.turn {N0 q n m : Nat} {c r : Nat → Nat} {D : Nat → List Int} {lv mv : Value} {w W W' : World} (h : StD N0 q n m c r D lv mv w W) (hd : DoneR q (PCh N0 q n) (c m) (r m) W W') : ∃ D', StD N0 q n m c r D' lv mv w W' := by
  obtain ⟨E, hE, hP, hR, hp⟩ := hd
  obtain ⟨gl, cl, gm, cm, rfl, rfl, hl1, hm1, hf⟩ := h.form
  obtain ⟨cs, f, hc⟩ := (h.chs.pc m (Nat.le_refl _)).typ
  obtain ⟨ds, f2, hr⟩ := (h.chs.rc m (Nat.le_refl _)).typ
  have hcg := (h.chs.pc m (Nat.le_refl _)).ge
  have hrg := h.chs.ge m (Nat.le_refl _)
  have hlo := h.lo
  have hbs := h.bel.size
  refine ⟨_, h.chs.turn hE hP hR hp, h.l.blk ?_, h.m.blk ?_, h.bel.trans ⟨hp.os, hp.tape, hp.output, hp.size, fun k hk => hp.block k (by omega) (by omega) (by omega)⟩, h.lo⟩
  · intro g hg
    cases hg
    obtain ⟨hlt, cur, f3, hb⟩ := hf.lb
    exact hp.block _ hlt (typ_ne hb hc (by decide)) (typ_ne hb hr (by decide))
  · intro g hg
    cases hg
    obtain ⟨hlt, cur, f3, hb⟩ := hf.mb
    exact hp.block _ hlt (typ_ne hb hc (by decide)) (typ_ne hb hr (by decide))
/-- the last ones are left off -/
theorem StD.pop {N0 q n m : Nat} {c r : Nat → Nat} {D : Nat → List Int} {gl cl gm cm : Nat} {w W : World} (h : StD N0 q n (m + 1) c r D (.slice (some ⟨gl, 0, none⟩) (m + 1 + 1) cl) (.slice (some ⟨gm, 0, none⟩) (m + 1 + 1) cm) w W) : StD N0 q n m c r D (.slice (some ⟨gl, 0, none⟩) (m + 1) cl) (.slice (some ⟨gm, 0, none⟩) (m + 1) cm) w W := by
  refine ⟨h.chs.pop, ?_, ?_, h.bel, h.lo⟩
  · have hl := h.l
    rw [← lsn_take]
    refine OwnP.take ?_ (by rw [lsn_len]; omega)
    rw [lsn_len]
    exact hl
  · have hl := h.m
    rw [← lsn_take]
    refine OwnP.take ?_ (by rw [lsn_len]; omega)
    rw [lsn_len]
    exact hl

theorem PCh.row {N0 q n : Nat} {W W' : World} {c g : Nat} {D : List Int} {t : TypeId} (h : PCh N0 q n W c D) (e : W.grownBy W' (some g)) (hg : ∃ cur f, W.heap[g]? = some (.cells cur t f)) (h1 : t ≠ 53) (hN : N0 ≤ g) : PCh N0 q n W' c D := by
  obtain ⟨cur, f, hg⟩ := hg
  obtain ⟨cs, f', hc⟩ := h.typ
  refine h.blocks (gb_blk e h.lt (typ_ne hc hg h1.symm)) (fun b hb => gb_blk e ?_ (by omega))
  have := h.ge
  have := h.lt
  omega
theorem RCh.row {q : Nat} {W W' : World} {r g : Nat} {D : List Int} {t : TypeId} (h : RCh q W r D) (e : W.grownBy W' (some g)) (hg : ∃ cur f, W.heap[g]? = some (.cells cur t f)) (h2 : t ≠ 37) (h3 : t ≠ 3) : RCh q W' r D := by
  obtain ⟨cur, f, hg⟩ := hg
  obtain ⟨cs, f', hc⟩ := h.typ
  exact h.blocks e.size (gb_blk e h.lt (typ_ne hc hg h2.symm)) (fun b cs f hb => gb_blk e (Array.getElem?_eq_some_iff.1 hb).1 (typ_ne hb hg h3.symm))
/-- one more on both sides -/
theorem StD.push {N0 q n m : Nat} {c r : Nat → Nat} {D : Nat → List Int} {gl cl gm cm c' c2 : Nat} {a2 : Option Addr} {v3 v5 : Value} {w W2 W3 W5 : World} (h : StD N0 q n m c r D (.slice (some ⟨gl, 0, none⟩) (m + 1) cl) (.slice (some ⟨gm, 0, none⟩) (m + 1) cm) w W2)
    (hf : StF m c r gl cl gm cm W2) (hgl : N0 ≤ gl) (hgm : N0 ≤ gm) (hP : PCh N0 q n W2 c' (D m)) (hc : ∀ i, i ≤ m → c i < c') (hn : NumL W2 a2 c2 (D m)) (ho3 : OwnP N0 W3 27 v3 (lsn c (m + 1) ++ [c'])) (hg3 : W2.grownBy W3 (some gl))
    (ho5 : OwnP N0 W5 29 v5 (lsn r (m + 1) ++ [W3.heap.size])) (hg5 : (W3.alloc (.cells #[.int .i64 q, .slice a2 (D m).length c2] 37)).grownBy W5 (some gm)) :
    StD N0 q n (m + 1) (upn c (m + 1) c') (upn r (m + 1) W3.heap.size) (upn D (m + 1) (D m)) v3 v5 w W5 := by
  obtain ⟨W4, hW4⟩ : ∃ W4, W4 = W3.alloc (.cells #[.int .i64 q, .slice a2 (D m).length c2] 37) := ⟨_, rfl⟩
  rw [← hW4] at hg5
  have hb4 : Below W3.heap.size W3 W4 := by rw [hW4]; exact (Below.refl _ _).alloc (Nat.le_refl _) _
  obtain ⟨hl1, hlt⟩ := hf.lb
  obtain ⟨hm1, curm, fm, hmt⟩ := hf.mb
  have hne : gm ≠ gl := by
    obtain ⟨curl, fl, hl2⟩ := hlt
    exact typ_ne hmt hl2 (by decide)
  have hm3 : W3.heap[gm]? = some (.cells curm 29 fm) := (gb_blk hg3 hm1 hne).trans hmt
  have hm4 : ∃ cur f, W4.heap[gm]? = some (.cells cur 29 f) := ⟨curm, fm, (hb4.block _ (Array.getElem?_eq_some_iff.1 hm3).1).trans hm3⟩
  have hch3 := h.chs.row hg3 hlt (by decide) (by decide) (by decide) hgl
  have hch5 := (hch3.below hb4).row hg5 hm4 (by decide) (by decide) (by decide) hgm
  have hP5 := ((hP.row hg3 hlt (by decide) hgl).below hb4).row hg5 hm4 (by decide) hgm
  have hn3 : NumL W3 a2 c2 (D m) := hn.other hg3 (fun cs f e => by
    obtain ⟨cur, f', e2⟩ := hlt
    exact typ_ne e e2 (by decide) rfl)
  have hR4 : RCh q W4 W3.heap.size (D m) := ⟨a2, c2, by rw [hW4]; exact heap_alloc_new W3 _, hn3.below hb4⟩
  have hR5 := hR4.row hg5 hm4 (by decide) (by decide)
  have hs3 := hg3.size
  refine ⟨hch5.push hP5 hR5 hc (fun i hi => ?_), ?_, ?_, ?_, h.lo⟩
  · have := (h.chs.rc i hi).lt
    omega
  · have e : lsn (upn c (m + 1) c') (m + 1 + 1) = lsn c (m + 1) ++ [c'] := by
      rw [lsn_succ, upn_same, lsn_congr (g := c) (fun j hj => upn_ne _ _ (by omega))]
    rw [e]
    have ho4 := ho3.below hb4
    refine ho4.kept hg5 ?_
    obtain ⟨g', _, _, _, _, hob, ⟨cur, f, hty⟩, _⟩ := ho4.form (by simp)
    rw [hob]
    obtain ⟨cur2, f2, hm5⟩ := hm4
    refine .inr (fun e => ?_)
    injection e with e
    exact typ_ne hty hm5 (by decide) e
  · have e : lsn (upn r (m + 1) W3.heap.size) (m + 1 + 1) = lsn r (m + 1) ++ [W3.heap.size] := by
      rw [lsn_succ, upn_same, lsn_congr (g := r) (fun j hj => upn_ne _ _ (by omega))]
    rw [e]
    exact ho5
  · have hlo := h.lo
    have hbs := h.bel.size
    exact ((h.bel.trans (gb_to hg3 (by omega) hbs)).trans (hb4.mono (by omega))).trans (gb_to hg5 (by omega) (by have := hb4.size; omega))

/-- a step, whatever it is -/
theorem done_any {N0 q n : Nat} (h5 : 5 ≤ q) (h4 : q ≤ 2147483647) (hpn : Spo.PowIs q n) (n0 c r co : Nat) (kind num : Int) (ao : Option Addr) (l D : List Int) (w : World) (hN : N0 ≤ r) (hP : PCh N0 q n w c D) (hR : RCh q w r D) (hD : Dig D) (hll : l.length ≤ 17592186043904) (hfl : Fits l) (hc0 : n0 ≤ c) (hr0 : n0 ≤ r) (hl : Lst n0 w ao co l) :
    Calls Tryd.prog 8 #[.pointer (some ⟨c, 0, none⟩), .pointer (some ⟨r, 0, none⟩), .agg #[.int .i64 kind, .int .i64 num, .slice ao l.length co]] w fun e w' => e = .returned (.bool true) ∧ DoneR q (PCh N0 q n) c r w w' := by
  have H := chain_as N0 q n
  by_cases k1 : kind = 1
  · subst k1
    exact done_take H h5 h4 hpn n0 c r co num ao l D w hN hP hR hD hll hfl hc0 hr0 hl
  by_cases k2 : kind = 2
  · subst k2
    exact done_draw H h5 h4 hpn c r num _ D w hN hP hR hD
  by_cases k3 : kind = 3
  · subst k3
    by_cases hr : 1 ≤ num ∧ num ≤ 65536
    · obtain ⟨N, rfl⟩ := Int.eq_ofNat_of_zero_le (show 0 ≤ num by omega)
      exact done_draws H h5 h4 hpn c r N _ D w hN hP hR hD (by omega) (by omega)
    · exact done_drawsNo H c r num _ D w hP hR hD (by omega)
  by_cases k4 : kind = 4
  · subst k4
    by_cases hr : 1 ≤ num ∧ num ≤ 65536
    · exact done_place H h5 h4 hpn c r num _ D w hN hP hR hD hr.1 hr.2
    · exact done_placeNo H c r num _ D w hP hR hD (by omega)
  exact done_none H c r kind num _ D w hP hR hD ⟨by simp [k1], by simp [k2], by simp [k3], by simp [k4]⟩

end Go.Proofs.YtgjkakfkefpgbafDoor
