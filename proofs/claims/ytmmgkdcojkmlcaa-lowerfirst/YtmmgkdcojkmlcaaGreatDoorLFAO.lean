/- Package lower: the writer, in memory; it leaves places and fills them. Package lower: the writer fills a place, writes, leaves a place for a call. A region that draws its order, where what is held need not hold behind the stores: short steps. Package lower: the writer writes, and leaves a place for a call. Package lower: a function's body in memory; a cell, what the machine does for a sign. Package lower: room, plainly; the contracts of value and tell. Package lower: the cell of an expression's value. Package lower: two values; the cases of tell. -/
import Derived.Test.YtmmgkdcojkmlcaaGreatDoorLFAN
import Derived.Maps.AppendAt
import Derived.Laws.OwnMore
import Derived.Test.YtmmgkdcojkmlcaaGreatDoorLFAB
namespace Go.Proofs.YtmmgkdcojkmlcaaGreatDoor
open Go.RowKit

def insV (L : List InsZ) : List Value := L.flatMap fun x => [.int .i64 x.op, .int .i64 x.a, .int .i64 x.b, .int .i64 x.c]
def clV (l : List (Nat × List UInt8)) : List Value := l.flatMap fun x => [.int .i64 (x.1 : Int), .string (bs x.2)]
theorem insV_app (a b : List InsZ) : insV (a ++ b) = insV a ++ insV b := List.flatMap_append
theorem clV_app (a b : List (Nat × List UInt8)) : clV (a ++ b) = clV a ++ clV b := List.flatMap_append
theorem insV_set : ∀ (L : List InsZ) (k : Nat) (x : InsZ), k < L.length → insV (L.set k x) = ((((insV L).set (k * 4) (.int .i64 x.op)).set (k * 4 + 1) (.int .i64 x.a)).set (k * 4 + 2) (.int .i64 x.b)).set (k * 4 + 3) (.int .i64 x.c)
  | [], _, _, h => by simp at h
  | y :: r, 0, x, _ => rfl
  | y :: r, k + 1, x, h => by
    have ih := insV_set r k x (by simpa using h)
    have e : (k + 1) * 4 = k * 4 + 4 := by omega
    have e2 : ∀ (j : Nat) (l : List Value) (v a b c d : Value), (a :: b :: c :: d :: l).set (k * 4 + 4 + j) v = a :: b :: c :: d :: l.set (k * 4 + j) v := fun j l v a b c d => by
      rw [show k * 4 + 4 + j = (k * 4 + j) + 1 + 1 + 1 + 1 by omega]
      rfl
    show insV (y :: r.set k x) = _
    have h0 : insV (y :: r) = .int .i64 y.op :: .int .i64 y.a :: .int .i64 y.b :: .int .i64 y.c :: insV r := rfl
    have h1 : insV (y :: r.set k x) = .int .i64 y.op :: .int .i64 y.a :: .int .i64 y.b :: .int .i64 y.c :: insV (r.set k x) := rfl
    rw [h0, h1, ih, e]
    have e0 := e2 0
    simp only [Nat.add_zero] at e0
    rw [e0, e2 1, e2 2, e2 3]
theorem insV_at : ∀ (L : List InsZ) (k : Nat), k < L.length → (insV L)[k * 4]? = some (.int .i64 (insat L k).op) ∧ (insV L)[k * 4 + 1]? = some (.int .i64 (insat L k).a) ∧ (insV L)[k * 4 + 2]? = some (.int .i64 (insat L k).b) ∧ (insV L)[k * 4 + 3]? = some (.int .i64 (insat L k).c)
  | [], _, h => by simp at h
  | y :: r, 0, _ => ⟨rfl, rfl, rfl, rfl⟩
  | y :: r, k + 1, h => by
    have ih := insV_at r k (by simpa using h)
    have h0 : insV (y :: r) = .int .i64 y.op :: .int .i64 y.a :: .int .i64 y.b :: .int .i64 y.c :: insV r := rfl
    rw [h0, show (k + 1) * 4 = k * 4 + 1 + 1 + 1 + 1 by omega]
    exact ih
/-- what the writer's own calls may turn; with b, the body too -/
def loT (b : Bool) (o : Obj) : Bool := match o with
  | .cells _ t _ => t == 86 || t == 35 || t == 122 || (b && t == 117)
  | _ => false
structure LoK (b : Bool) (X : Option Nat) (N : Nat) (w w' : World) : Prop where
  bel : Below N w w'
  keep : ∀ g o, w.heap[g]? = some o → loT b o = false → X ≠ some g → w'.heap[g]? = w.heap[g]?
theorem LoK.refl (b : Bool) (X : Option Nat) (N : Nat) (w : World) : LoK b X N w w := ⟨Below.refl _ _, fun _ _ _ _ _ => rfl⟩
theorem LoK.trans {b : Bool} {X : Option Nat} {N : Nat} {w w' w'' : World} (h : LoK b X N w w') (k : LoK b X N w' w'') : LoK b X N w w'' :=
  ⟨h.bel.trans k.bel, fun g o e t x => (k.keep g o ((h.keep g o e t x).trans e) t x).trans (h.keep g o e t x)⟩
theorem loT_of {o : Obj} (h : loT true o = false) : loT false o = false := by
  cases o with
  | cells cs t f => simp only [loT, Bool.or_eq_false_iff, Bool.true_and, Bool.false_and] at h ⊢; exact ⟨h.1, trivial⟩
  | _ => rfl
theorem LoK.wide {X : Option Nat} {N : Nat} {w w' : World} (h : LoK false none N w w') : LoK true X N w w' :=
  ⟨h.bel, fun g o e t _ => h.keep g o e (loT_of t) (by simp)⟩
theorem LoK.below {b : Bool} {X : Option Nat} {N : Nat} {w w' : World} (h : Below w.heap.size w w') (hN : N ≤ w.heap.size) : LoK b X N w w' :=
  ⟨h.mono hN, fun g _ e _ _ => h.block g (Array.getElem?_eq_some_iff.1 e).1⟩
theorem LoK.grown {b : Bool} {X : Option Nat} {N : Nat} {w w' : World} {r : Option Nat} (h : w.grownBy w' r) (hb : ∀ k, r = some k → N ≤ k ∧ ∃ o, w.heap[k]? = some o ∧ loT b o = true) (hN : N ≤ w.heap.size) : LoK b X N w w' :=
  ⟨⟨h.os, h.tape, h.output, h.size, fun k hk => h.block k (Nat.lt_of_lt_of_le hk hN) (fun e => by have := (hb k e.symm).1; omega)⟩, fun g o e t _ => h.block g (Array.getElem?_eq_some_iff.1 e).1 (fun er => by
    obtain ⟨_, o', h1, h2⟩ := hb g er.symm
    rw [e] at h1
    injection h1 with h1
    subst h1
    rw [t] at h2
    cases h2)⟩
theorem LoK.set {b : Bool} {X : Option Nat} {N g i : Nat} {w : World} {cs : Array Value} {t : TypeId} {f : Nat × Nat} (hg : w.heap[g]? = some (.cells cs t f)) (ht : loT b (.cells cs t f) = true) (hN : N ≤ g) (v : Value) : LoK b X N w (w.setCell ⟨g, i, none⟩ v) :=
  ⟨bl_set (Below.refl _ _) hN v, fun k o e to _ => Below.heap_setCell _ _ _ _ (fun er => by
    obtain rfl : k = g := er
    rw [hg] at e
    injection e with e
    subst e
    rw [ht] at to
    cases to)⟩
/-- the writer in memory -/
structure LoW (p N fd wr fb : Nat) (w : World) (s : LwS) : Prop where
  fld : ∃ cs f, w.heap[fd]? = some (.cells cs 61 f) ∧ cs[0]? = some (.int .i64 (p : Int))
  str : ∃ lv cv, w.heap[wr]? = some (.cells #[.pointer (some ⟨fd, 0, none⟩), lv, cv, .map (some fb)] 86 (0, 0)) ∧ w.ownsRow N 35 4 lv s.L.length (insV s.L) ∧ w.ownsRow N 122 2 cv s.cl.length (clV s.cl)
  hN : N ≤ wr
theorem LoW.lt {p N fd wr fb : Nat} {w : World} {s : LwS} (h : LoW p N fd wr fb w s) : wr < w.heap.size := by
  obtain ⟨_, _, h1, _⟩ := h.str
  exact (Array.getElem?_eq_some_iff.1 h1).1
theorem LoW.below {p N fd wr fb : Nat} {w w' : World} {s : LwS} (h : LoW p N fd wr fb w s) (e : Below w.heap.size w w') : LoW p N fd wr fb w' s := by
  obtain ⟨cs, f, h1, h2⟩ := h.fld
  obtain ⟨lv, cv, h3, h4, h5⟩ := h.str
  refine ⟨⟨cs, f, (e.block _ (Array.getElem?_eq_some_iff.1 h1).1).trans h1, h2⟩, ⟨lv, cv, (e.block _ (Array.getElem?_eq_some_iff.1 h3).1).trans h3, ?_, ?_⟩, h.hN⟩
  · exact h4.kept (row := none) ⟨e.os, e.tape, e.output, e.size, fun k hk _ => e.block k hk⟩ (by cases hv : lv.ownBlock <;> simp)
  · exact h5.kept (row := none) ⟨e.os, e.tape, e.output, e.size, fun k hk _ => e.block k hk⟩ (by cases hv : cv.ownBlock <;> simp)
theorem LoW.p0 {p N fd wr fb : Nat} {w : World} {s : LwS} (h : LoW p N fd wr fb w s) : w.cell? ⟨fd, 0, none⟩ = some (.int .i64 (p : Int)) := by
  obtain ⟨cs, f, h1, h2⟩ := h.fld
  simp [World.cell?, h1, h2]
theorem gb_one (w : World) (g i : Nat) (v : Value) : w.grownBy (w.setCell ⟨g, i, none⟩ v) (some g) :=
  ⟨rfl, rfl, rfl, by simp [World.setCell], fun k _ hk => Below.heap_setCell _ _ _ _ (fun e => hk (by simp [e]))⟩
/-- a list's block isn't a block of another type -/
theorem own_ne {w : World} {N : Nat} {e : TypeId} {k : Nat} {v : Value} {n : Nat} {xs : List Value} {g : Nat} {cs : Array Value} {t : TypeId} {f : Nat × Nat} (h : w.ownsRow N e k v n xs) (hg : w.heap[g]? = some (.cells cs t f)) (ht : t ≠ e) : v.ownBlock = none ∨ v.ownBlock ≠ some g := by
  rcases h.2 with ⟨rfl, _⟩ | ⟨b, cap, cur, rfl, _, hb, _⟩
  · exact Or.inl rfl
  · right
    intro er
    simp [Value.ownBlock] at er
    subst er
    rw [hg] at hb
    injection hb with hb
    injection hb with _ hb _
    exact ht hb
theorem own_obj {w : World} {N : Nat} {e : TypeId} {k : Nat} {v : Value} {n : Nat} {xs : List Value} (h : w.ownsRow N e k v n xs) : ∀ b, v.ownBlock = some b → N ≤ b ∧ ∃ cs f, w.heap[b]? = some (.cells cs e f) := fun b hb => by
  rcases h.2 with ⟨rfl, _⟩ | ⟨g, cap, cur, rfl, hN, hg, _⟩
  · cases hb
  · simp [Value.ownBlock] at hb
    subst hb
    exact ⟨hN, _, _, hg⟩

set_option maxRecDepth 100000 in
set_option maxHeartbeats 2000000 in
theorem leave_any (p N fd wr fb : Nat) (s : LwS) (w : World) (h : LoW p N fd wr fb w s) (hsm : s.L.length ≤ 1000000) :
    Calls Tryz.prog 67 #[.pointer (some ⟨wr, 0, none⟩)] w fun e w' => e = .returned (.int .i64 (s.L.length : Int)) ∧ LoW p N fd wr fb w' s.lv ∧ LoK false none N w w' ∧ w'.cell? ⟨wr, 2, none⟩ = w.cell? ⟨wr, 2, none⟩ := by
  have hH := h
  obtain ⟨fcs, ff, hf1, hf2⟩ := h.fld
  obtain ⟨lv, cv, h3, h4, h5⟩ := h.str
  have hNw : N ≤ w.heap.size := Nat.le_of_lt (Nat.lt_of_le_of_lt h.hN h.lt)
  have hlt := h.lt
  obtain ⟨n, hn⟩ : ∃ n, n = s.L.length := ⟨_, rfl⟩
  obtain ⟨xs, hxs⟩ : ∃ xs, xs = insV s.L := ⟨_, rfl⟩
  rw [← hn] at hsm ⊢
  rw [← hn, ← hxs] at h4
  obtain ⟨i0, hi, hz0, hz1, hz2⟩ := info_parts (show (Tryz.prog.info? 35).map (fun i => (i.zero, i.size, i.bytes)) = some (some (.agg #[.int .i64 0, .int .i64 0, .int .i64 0, .int .i64 0]), 4, 32) by kernel_rfl)
  obtain ⟨W1, hW1⟩ : ∃ W, W = w.alloc (.cells #[.int .i64 0, .int .i64 0, .int .i64 0, .int .i64 0] 35) := ⟨_, rfl⟩
  have hb1 : Below w.heap.size w W1 := by rw [hW1]; exact (Below.refl _ _).alloc (Nat.le_refl _) _
  have ho1 : W1.ownsRow N 35 4 lv n xs := by rw [hW1]; exact h4.alloc _
  have hc1 : W1.heap[w.heap.size]? = some (.cells #[.int .i64 0, .int .i64 0, .int .i64 0, .int .i64 0] 35 (0, 0)) := by rw [hW1]; exact heap_alloc_new w _
  have hs1 : W1.heap.size = w.heap.size + 1 := by rw [hW1]; simp
  have h3' : W1.heap[wr]? = some (.cells #[.pointer (some ⟨fd, 0, none⟩), lv, cv, .map (some fb)] 86 (0, 0)) := (hb1.block wr hlt).trans h3
  have x1 : w.cell? ⟨wr, 1, none⟩ = some lv := by simp [World.cell?, h3]
  have hcv : w.cell? ⟨wr, 2, none⟩ = some cv := by simp [World.cell?, h3]
  have HX := hid hxs
  have HN := hid hn
  have HW1 := hid hW1
  have HB1 := hid hb1
  have HO1 := hid ho1
  have HC1 := hid hc1
  have HS1 := hid hs1
  have H3 := hid h3'
  have H5 : Hid (W1.ownsRow N 122 2 cv s.cl.length (clV s.cl)) := by rw [hW1]; exact h5.alloc _
  have HF := hid ((hb1.block fd (Array.getElem?_eq_some_iff.1 hf1).1).trans hf1)
  have HI := hid (And.intro hi (And.intro hz0 (And.intro hz1 hz2)))
  have HH := hid hH
  clear hf1 h3 h4 h5 hxs hn hW1 hb1 ho1 hc1 hs1 h3' hi hz0 hz1 hz2 hH h
  go_enter Tryz.func67, Tryz.ntmps67
  go_wp2_with (at_builtin; rw [← HW1.out]; refine wpList_append_own_at _ rfl _ _ 22 rfl N 35 i0 (.agg #[.int .i64 0, .int .i64 0, .int .i64 0, .int .i64 0]) 4 32 Tryz.underlying22 HI.out.1 HI.out.2.1 HI.out.2.2.1 HI.out.2.2.2 rfl (by decide) lv n xs rfl HO1.out ⟨w.heap.size, 0, none⟩ 1 1 [.int .i64 0, .int .i64 0, .int .i64 0, .int .i64 0] rfl rfl ?_ (by simp [Value.oneCell']) (by unfold maxLen; omega) (by omega) (by rw [HS1.out]; omega) ?_)
  · intro j u hu
    match j, hu with
    | 0, hu => simp at hu; subst hu; simp [World.cell?, Addr.add, HC1.out]
    | 1, hu => simp at hu; subst hu; simp [World.cell?, Addr.add, HC1.out]
    | 2, hu => simp at hu; subst hu; simp [World.cell?, Addr.add, HC1.out]
    | 3, hu => simp at hu; subst hu; simp [World.cell?, Addr.add, HC1.out]
    | j + 4, hu => simp at hu
  intro v' w2 hown hgr hnil hblk
  have hw2 : w2.heap[wr]? = some (.cells #[.pointer (some ⟨fd, 0, none⟩), lv, cv, .map (some fb)] 86 (0, 0)) := by
    rcases own_ne HO1.out H3.out (by decide) with hne | hne
    · exact (hgr.block wr (Array.getElem?_eq_some_iff.1 H3.out).1 (by rw [hne]; simp)).trans H3.out
    · exact (hgr.block wr (Array.getElem?_eq_some_iff.1 H3.out).1 (fun e => hne e.symm)).trans H3.out
  rcases hown.2 with ⟨_, h0⟩ | ⟨g, cap, cur, hv', hgN, hgc, _⟩
  · exact absurd h0 (by omega)
  subst hv'
  have hk5 : w2.ownsRow N 122 2 cv s.cl.length (clV s.cl) := by
    refine H5.out.kept hgr ?_
    cases hlb : lv.ownBlock with
    | none => cases cv.ownBlock <;> simp
    | some b =>
      obtain ⟨_, cs, f, hc⟩ := own_obj HO1.out b hlb
      exact own_ne H5.out hc (by decide)
  have hfd : w2.heap[fd]? = some (.cells fcs 61 ff) := by
    rcases own_ne HO1.out HF.out (by decide) with hne | hne
    · exact (hgr.block fd (Array.getElem?_eq_some_iff.1 HF.out).1 (by rw [hne]; simp)).trans HF.out
    · exact (hgr.block fd (Array.getElem?_eq_some_iff.1 HF.out).1 (fun e => hne e.symm)).trans HF.out
  have hK2 : LoK false none N w w2 := (LoK.below HB1.out hNw).trans (LoK.grown hgr (fun b hb => by
    obtain ⟨h1, cs, f, h2⟩ := own_obj HO1.out b hb
    exact ⟨h1, _, h2, by simp [loT]⟩) (by rw [HS1.out]; omega))
  obtain ⟨m, hm⟩ : ∃ m, m = n + 1 := ⟨_, rfl⟩
  rw [← hm] at hown ⊢
  obtain ⟨W3, hW3⟩ : ∃ W, W = w2.setCell ⟨wr, 1, none⟩ (.slice (some ⟨g, 0, none⟩) m cap) := ⟨_, rfl⟩
  have hgb : w2.grownBy W3 (some wr) := by rw [hW3]; exact gb_one _ _ _ _
  have hw3 : W3.heap[wr]? = some (.cells #[.pointer (some ⟨fd, 0, none⟩), .slice (some ⟨g, 0, none⟩) m cap, cv, .map (some fb)] 86 (0, 0)) := by rw [hW3]; exact heap_setCell_same w2 wr 1 _ _ _ hw2
  have hLW : LoW p N fd wr fb W3 s.lv := by
    refine ⟨⟨fcs, ff, (hgb.block fd (Array.getElem?_eq_some_iff.1 hfd).1 (fun e => by
      injection e with e
      subst e
      rw [hw2] at hfd
      injection hfd with hfd
      injection hfd with _ hfd _
      exact absurd hfd (by decide))).trans hfd, hf2⟩, ⟨_, cv, hw3, ?_, ?_⟩, HH.out.hN⟩
    · have h6 := hown.kept hgb (own_ne hown hw2 (by decide))
      have e1 : s.lv.L.length = m := by rw [hm, HN.out]; simp [LwS.lv]
      have e2 : insV s.lv.L = xs ++ [.int .i64 0, .int .i64 0, .int .i64 0, .int .i64 0] := by rw [HX.out]; exact insV_app _ _
      rw [e1, e2]
      exact h6
    · exact hk5.kept hgb (own_ne hk5 hw2 (by decide))
  have hK3 : LoK false none N w W3 := by rw [hW3]; exact hK2.trans (LoK.set hw2 (by simp [loT]) HH.out.hN _)
  have HC2 : Hid (W3.cell? ⟨wr, 2, none⟩ = w.cell? ⟨wr, 2, none⟩) := by
    unfold Hid
    rw [hcv]
    simp [World.cell?, hw3]
  have y1 : w2.cell? ⟨wr, 1, none⟩ = some lv := by simp [World.cell?, hw2]
  have y2 : w2.frozen? ⟨wr, 1, none⟩ = false := by simp [World.frozen?, hw2]
  have hks : IntKind.i64.wrap ((m : Int) - 1) = (n : Int) := by rw [IntKind.wrap_i64]; omega
  have HL := hid hLW
  have HK := hid hK3
  have HW3 := hid hW3
  clear hown hgr hnil hblk hw2 hgc hk5 hfd hK2 hgb hw3 hLW hK3 hW3 hm x1 hcv
  go_wp2_with fail
  go_ret
  rw [← HW3.out]
  exact ⟨rfl, HL.out, HK.out, HC2.out⟩

end Go.Proofs.YtmmgkdcojkmlcaaGreatDoor

namespace Go.Proofs.YtmmgkdcojkmlcaaGreatDoor
open Go.RowKit

def I64z (n : Int) : Prop := -9223372036854775808 ≤ n ∧ n ≤ 9223372036854775807
theorem LoW.own {p N fd wr fb : Nat} {w : World} {s : LwS} (h : LoW p N fd wr fb w s) (hl : 0 < s.L.length) : ∃ g cap cv, w.heap[wr]? = some (.cells #[.pointer (some ⟨fd, 0, none⟩), .slice (some ⟨g, 0, none⟩) s.L.length cap, cv, .map (some fb)] 86 (0, 0)) ∧ w.ownsRow N 35 4 (.slice (some ⟨g, 0, none⟩) s.L.length cap) s.L.length (insV s.L) ∧ w.ownsRow N 122 2 cv s.cl.length (clV s.cl) := by
  obtain ⟨lv, cv, h3, h4, h5⟩ := h.str
  rcases h4.2 with ⟨_, h0⟩ | ⟨g, cap, cur, rfl, _⟩
  · omega
  · exact ⟨g, cap, cv, h3, h4, h5⟩
/-- a place filled -/
theorem LoW.fill {p N fd wr fb k : Nat} {w : World} {s : LwS} (h : LoW p N fd wr fb w s) (hk : k < s.L.length) (x : InsZ) {g cap : Nat} {cv : Value} (h3 : w.heap[wr]? = some (.cells #[.pointer (some ⟨fd, 0, none⟩), .slice (some ⟨g, 0, none⟩) s.L.length cap, cv, .map (some fb)] 86 (0, 0))) (h4 : w.ownsRow N 35 4 (.slice (some ⟨g, 0, none⟩) s.L.length cap) s.L.length (insV s.L)) (h5 : w.ownsRow N 122 2 cv s.cl.length (clV s.cl)) :
    LoW p N fd wr fb ((((w.setCell ⟨g, k * 4, none⟩ (.int .i64 x.op)).setCell ⟨g, k * 4 + 1, none⟩ (.int .i64 x.a)).setCell ⟨g, k * 4 + 2, none⟩ (.int .i64 x.b)).setCell ⟨g, k * 4 + 3, none⟩ (.int .i64 x.c)) { s with L := s.L.set k x } ∧ LoK false none N w ((((w.setCell ⟨g, k * 4, none⟩ (.int .i64 x.op)).setCell ⟨g, k * 4 + 1, none⟩ (.int .i64 x.a)).setCell ⟨g, k * 4 + 2, none⟩ (.int .i64 x.b)).setCell ⟨g, k * 4 + 3, none⟩ (.int .i64 x.c)) := by
  have a1 := (h4.stored (k * 4) (.int .i64 x.op)).1
  have a2 := (a1.stored (k * 4 + 1) (.int .i64 x.a)).1
  have a3 := (a2.stored (k * 4 + 2) (.int .i64 x.b)).1
  have a4 := (a3.stored (k * 4 + 3) (.int .i64 x.c)).1
  obtain ⟨hgN, cs0, f0, hg0⟩ := own_obj h4 g rfl
  have ho : ∀ j, j ≠ g → ((((w.setCell ⟨g, k * 4, none⟩ (.int .i64 x.op)).setCell ⟨g, k * 4 + 1, none⟩ (.int .i64 x.a)).setCell ⟨g, k * 4 + 2, none⟩ (.int .i64 x.b)).setCell ⟨g, k * 4 + 3, none⟩ (.int .i64 x.c)).heap[j]? = w.heap[j]? := fun j hj => by
    rw [Below.heap_setCell _ _ _ _ hj, Below.heap_setCell _ _ _ _ hj, Below.heap_setCell _ _ _ _ hj, Below.heap_setCell _ _ _ _ hj]
  have hsz : ((((w.setCell ⟨g, k * 4, none⟩ (.int .i64 x.op)).setCell ⟨g, k * 4 + 1, none⟩ (.int .i64 x.a)).setCell ⟨g, k * 4 + 2, none⟩ (.int .i64 x.b)).setCell ⟨g, k * 4 + 3, none⟩ (.int .i64 x.c)).heap.size = w.heap.size := by simp [World.setCell]
  have hgb : w.grownBy ((((w.setCell ⟨g, k * 4, none⟩ (.int .i64 x.op)).setCell ⟨g, k * 4 + 1, none⟩ (.int .i64 x.a)).setCell ⟨g, k * 4 + 2, none⟩ (.int .i64 x.b)).setCell ⟨g, k * 4 + 3, none⟩ (.int .i64 x.c)) (some g) := ⟨rfl, rfl, rfl, by rw [hsz]; exact Nat.le_refl _, fun j _ hj => ho j (fun e => hj (by rw [e]))⟩
  have hne : ∀ {b : Nat} {cs : Array Value} {t : TypeId} {f : Nat × Nat}, w.heap[b]? = some (.cells cs t f) → t ≠ 35 → b ≠ g := fun hb ht e => by
    subst e
    rw [hg0] at hb
    injection hb with hb
    injection hb with _ hb _
    exact ht hb.symm
  obtain ⟨fcs, ff, hf1, hf2⟩ := h.fld
  refine ⟨⟨⟨fcs, ff, (ho fd (hne hf1 (by decide))).trans hf1, hf2⟩, ⟨.slice (some ⟨g, 0, none⟩) s.L.length cap, cv, (ho wr (hne h3 (by decide))).trans h3, ?_, h5.kept hgb (own_ne h5 hg0 (by decide))⟩, h.hN⟩, LoK.grown hgb (fun b hb => ?_) (Nat.le_of_lt (Nat.lt_of_le_of_lt h.hN h.lt))⟩
  · show World.ownsRow _ _ _ _ _ (s.L.set k x).length (insV (s.L.set k x))
    rw [List.length_set, insV_set _ _ _ hk]
    exact a4
  · injection hb with hb
    subst hb
    exact ⟨hgN, _, hg0, by simp [loT]⟩

set_option maxRecDepth 100000 in
set_option maxHeartbeats 4000000 in
theorem fill_full (p N fd wr fb k : Nat) (op a b c : Int) (s : LwS) (w : World) (h3 : 3 ≤ p) (hm : p ≤ 2147483647) (h : LoW p N fd wr fb w s) (hk : k < s.L.length) (hsm : s.L.length ≤ 1000000) (ha : I64z a) (hb : I64z b) (hc : I64z c) :
    Calls Tryz.prog 50 #[.pointer (some ⟨wr, 0, none⟩), .int .i64 (k : Int), .int .i64 op, .int .i64 a, .int .i64 b, .int .i64 c] w fun e w' => (∃ v, e = .returned v) ∧ LoW p N fd wr fb w' (s.fl p k op a b c) ∧ LoK false none N w w' ∧ w'.cell? ⟨wr, 1, none⟩ = w.cell? ⟨wr, 1, none⟩ ∧ (∀ (x : Nat) (o : Obj), w.heap[x]? = some o → (∀ (cs : Array Value) (f : Nat × Nat), o ≠ .cells cs 35 f) → w'.heap[x]? = some o) := by
  have hmx : Tryz.prog.follows .mixedOrders = true := by kernel_rfl
  obtain ⟨g, cap, cv, g3, g4, g5⟩ := h.own (by omega)
  have HA : Hid (I64z a ∧ I64z b ∧ I64z c ∧ 3 ≤ p ∧ p ≤ 2147483647) := ⟨ha, hb, hc, h3, hm⟩
  obtain ⟨n, hn⟩ : ∃ n, n = s.L.length := ⟨_, rfl⟩
  have hF := h.fill hk (insP p op a b c) g3 g4 g5
  have c0 := g4.cellAt (k * 4) (by omega)
  have c1 := g4.cellAt (k * 4 + 1) (by omega)
  have c2 := g4.cellAt (k * 4 + 2) (by omega)
  have c3 := g4.cellAt (k * 4 + 3) (by omega)
  obtain ⟨i0, i1, i2, i3⟩ := insV_at s.L k hk
  rw [i0] at c0
  rw [i1] at c1
  rw [i2] at c2
  rw [i3] at c3
  have f0 := g4.frozenAt (k * 4)
  have f1 := g4.frozenAt (k * 4 + 1)
  have f2 := g4.frozenAt (k * 4 + 2)
  have f3 := g4.frozenAt (k * 4 + 3)
  rw [← hn] at hsm hk
  have hlt2 : (k : Int) < (n : Int) := by omega
  have HS : Hid (w.cell? ⟨wr, 0, none⟩ = some (.pointer (some ⟨fd, 0, none⟩)) ∧ w.cell? ⟨wr, 1, none⟩ = some (.slice (some ⟨g, 0, none⟩) n cap) ∧ w.cell? ⟨fd, 0, none⟩ = some (.int .i64 (p : Int))) := ⟨by simp [World.cell?, g3], by simp [World.cell?, g3, hn], h.p0⟩
  have HNE : Hid (wr ≠ g ∧ fd ≠ g) := by
    obtain ⟨_, cs0, f0, hg0⟩ := own_obj g4 g rfl
    obtain ⟨fcs, ff, hf1, _⟩ := h.fld
    exact ⟨fun e => by subst e; rw [g3] at hg0; injection hg0 with hg0; injection hg0 with _ hg0 _; exact absurd hg0 (by decide), fun e => by subst e; rw [hf1] at hg0; injection hg0 with hg0; injection hg0 with _ hg0 _; exact absurd hg0 (by decide)⟩
  have HGT : Hid (∃ cs f, w.heap[g]? = some (.cells cs 35 f)) := by
    obtain ⟨_, cs0, f0, hg0⟩ := own_obj g4 g rfl
    exact ⟨cs0, f0, hg0⟩
  have HF := hid hF
  have HNw : Hid (N ≤ w.heap.size) := Nat.le_of_lt (Nat.lt_of_le_of_lt h.hN h.lt)
  generalize (insat s.L k).op = q0 at *
  generalize (insat s.L k).a = q1 at *
  generalize (insat s.L k).b = q2 at *
  generalize (insat s.L k).c = q3 at *
  clear h g3 g4 g5 ha hb hc h3 hm hF i0 i1 i2 i3 hn
  go_enter Tryz.func50, Tryz.ntmps50
  go_wp2_with fail
  have HSA : Hid ((fun W => W.cell? ⟨wr, 0, none⟩ = some (.pointer (some ⟨fd, 0, none⟩)) ∧ W.cell? ⟨wr, 1, none⟩ = some (.slice (some ⟨g, 0, none⟩) n cap) ∧ W.cell? ⟨fd, 0, none⟩ = some (.int .i64 (p : Int))) ((((w.drew.setCell ⟨g, k * 4, none⟩ (.int .i64 op)).setCell ⟨g, k * 4 + 1, none⟩ (.int .i64 (a % (p : Int)))).setCell ⟨g, k * 4 + 2, none⟩ (.int .i64 (b % (p : Int)))).setCell ⟨g, k * 4 + 3, none⟩ (.int .i64 (c % (p : Int))))) := by
    have ho : ∀ x : Nat, x ≠ g → ∀ i, (((((w.drew.setCell ⟨g, k * 4, none⟩ (.int .i64 op)).setCell ⟨g, k * 4 + 1, none⟩ (.int .i64 (a % (p : Int)))).setCell ⟨g, k * 4 + 2, none⟩ (.int .i64 (b % (p : Int)))).setCell ⟨g, k * 4 + 3, none⟩ (.int .i64 (c % (p : Int))))).cell? ⟨x, i, none⟩ = w.cell? ⟨x, i, none⟩ := fun x hx i => by
      refine World.cell?_of_block ?_
      rw [Below.heap_setCell _ _ _ _ hx, Below.heap_setCell _ _ _ _ hx, Below.heap_setCell _ _ _ _ hx, Below.heap_setCell _ _ _ _ hx]
      rfl
    exact ⟨(ho wr HNE.out.1 0).trans HS.out.1, (ho wr HNE.out.1 1).trans HS.out.2.1, (ho fd HNE.out.2 0).trans HS.out.2.2⟩
  refine wp_region_held_drew (S := fun W => W.cell? ⟨wr, 0, none⟩ = some (.pointer (some ⟨fd, 0, none⟩)) ∧ W.cell? ⟨wr, 1, none⟩ = some (.slice (some ⟨g, 0, none⟩) n cap) ∧ W.cell? ⟨fd, 0, none⟩ = some (.int .i64 (p : Int))) hmx HS.out (fun hHeld => ?_)
  refine tkA 0 (.pointer (some ⟨wr, 0, none⟩)) ?_
  simp only [putX]
  refine tkA 1 (.pointer (some ⟨wr, 0, none⟩)) ?_
  simp only [putX]
  refine tkA 2 (.pointer (some ⟨wr, 1, none⟩)) ?_
  simp only [putX]
  refine tkA 3 (.slice (some ⟨g, 0, none⟩) n cap) ?_
  simp only [putX]
  refine tkA 4 (.int .i64 (k : Int)) ?_
  simp only [putX]
  refine tkA 5 (.int .i64 op) ?_
  simp only [putX]
  refine tkA 6 (.pointer (some ⟨wr, 0, none⟩)) ?_
  simp only [putX]
  refine tkA 7 (.pointer (some ⟨wr, 0, none⟩)) ?_
  simp only [putX]
  refine tkA 8 (.pointer (some ⟨wr, 0, none⟩)) ?_
  simp only [putX]
  refine tkA 9 (.pointer (some ⟨fd, 0, none⟩)) ?_
  simp only [putX]
  refine tkA 10 (.int .i64 a) ?_
  simp only [putX]
  refine tkA 12 (.pointer (some ⟨wr, 0, none⟩)) ?_
  simp only [putX]
  refine tkA 13 (.pointer (some ⟨wr, 0, none⟩)) ?_
  simp only [putX]
  refine tkA 14 (.pointer (some ⟨wr, 0, none⟩)) ?_
  simp only [putX]
  refine tkA 15 (.pointer (some ⟨fd, 0, none⟩)) ?_
  simp only [putX]
  refine tkA 16 (.int .i64 b) ?_
  simp only [putX]
  refine tkA 18 (.pointer (some ⟨wr, 0, none⟩)) ?_
  simp only [putX]
  refine tkA 19 (.pointer (some ⟨wr, 0, none⟩)) ?_
  simp only [putX]
  refine tkA 20 (.pointer (some ⟨wr, 0, none⟩)) ?_
  simp only [putX]
  refine tkA 21 (.pointer (some ⟨fd, 0, none⟩)) ?_
  simp only [putX]
  refine tkA 22 (.int .i64 c) ?_
  simp only [putX]
  refine rdA 11 fun K' hK' => ?_
  go_simp
  refine (of_any p fd a _ HA.out.2.2.2.1 HA.out.2.2.2.2 hHeld.2.2 HA.out.1.1 HA.out.1.2).mono ?_
  rintro e w1 ⟨rfl, rfl⟩
  refine hK'.out _ _ (hHeld) (fun hHeld => ?_)
  clear hK' K'
  refine rdA 17 fun K' hK' => ?_
  go_simp
  refine (of_any p fd b _ HA.out.2.2.2.1 HA.out.2.2.2.2 hHeld.2.2 HA.out.2.1.1 HA.out.2.1.2).mono ?_
  rintro e w1 ⟨rfl, rfl⟩
  refine hK'.out _ _ (hHeld) (fun hHeld => ?_)
  clear hK' K'
  refine rdA 23 fun K' hK' => ?_
  go_simp
  refine (of_any p fd c _ HA.out.2.2.2.1 HA.out.2.2.2.2 hHeld.2.2 HA.out.2.2.1.1 HA.out.2.2.1.2).mono ?_
  rintro e w1 ⟨rfl, rfl⟩
  refine hK'.out _ _ (hHeld) (fun hHeld => ?_)
  clear hK' K'
  refine tkA 24 (.agg #[.int .i64 op, .int .i64 (a % (p : Int)), .int .i64 (b % (p : Int)), .int .i64 (c % (p : Int))]) ?_
  simp only [putX]
  refine tkA 25 (.pointer (some ⟨g, k * 4, none⟩)) ?_
  simp only [putX]
  refine rdA 26 fun K' hK' => ?_
  go_simp
  refine hK'.out _ _ (HSA.out) (fun hHeld => ?_)
  clear hK' K'
  refine wpAnyH_done (by kernel_rfl) ?_ _
  go_end0
  have HKP : ∀ x, x ≠ g → ((((w.drew.setCell ⟨g, k * 4, none⟩ (.int .i64 op)).setCell ⟨g, k * 4 + 1, none⟩ (.int .i64 (a % (p : Int)))).setCell ⟨g, k * 4 + 2, none⟩ (.int .i64 (b % (p : Int)))).setCell ⟨g, k * 4 + 3, none⟩ (.int .i64 (c % (p : Int)))).heap[x]? = w.heap[x]? := fun x hx => by
    rw [Below.heap_setCell _ _ _ _ hx, Below.heap_setCell _ _ _ _ hx, Below.heap_setCell _ _ _ _ hx, Below.heap_setCell _ _ _ _ hx]
    rfl
  refine ⟨⟨_, rfl⟩, ?_, ?_, ?_, fun x o hx hno => (HKP x (fun e => by
    subst e
    obtain ⟨cs, f, hg⟩ := HGT.out
    rw [hx] at hg
    injection hg with hg
    exact hno cs f hg)).trans hx⟩
  all_goals first | exact HSA.out.2.1.trans HS.out.2.1.symm | exact HF.out.1.below (below_drewN (Below.refl _ _) 1) | exact HF.out.2.trans (LoK.below (below_drewN (Below.refl _ _) 1) (Nat.le_trans HNw.out HF.out.2.bel.size))
theorem fill_any (p N fd wr fb k : Nat) (op a b c : Int) (s : LwS) (w : World) (h3 : 3 ≤ p) (hm : p ≤ 2147483647) (h : LoW p N fd wr fb w s) (hk : k < s.L.length) (hsm : s.L.length ≤ 1000000) (ha : I64z a) (hb : I64z b) (hc : I64z c) :
    Calls Tryz.prog 50 #[.pointer (some ⟨wr, 0, none⟩), .int .i64 (k : Int), .int .i64 op, .int .i64 a, .int .i64 b, .int .i64 c] w fun e w' => (∃ v, e = .returned v) ∧ LoW p N fd wr fb w' (s.fl p k op a b c) ∧ LoK false none N w w' ∧ w'.cell? ⟨wr, 1, none⟩ = w.cell? ⟨wr, 1, none⟩ :=
  (fill_full p N fd wr fb k op a b c s w h3 hm h hk hsm ha hb hc).mono fun _ _ ⟨a, b, c, d, _⟩ => ⟨a, b, c, d⟩

end Go.Proofs.YtmmgkdcojkmlcaaGreatDoor

namespace Go.Proofs.YtmmgkdcojkmlcaaGreatDoor
open Go.RowKit

section
variable {P : Program} {md : Region.Mode} {ops : Array Oper} {Q : Exit → Act → World → Prop} {C : World → Prop} {st : List Nat}
/-- an operation that looks at no memory -/
theorem tkS (i : Nat) (v : Value) {oi : Oper} {fuel : Nat} {listed : Array Bool} {a : Act} {w : World} (hC : noSt st listed → C w) (h : wpAnyS P md ops Q C st fuel (listed.setIfInBounds i true) (a.put oi.dst v) w) (hi : ops[i]? = some oi := by rfl) (hy : ∀ w, True → (execOp a.eval oi).run P w = .ok (.value v) w := by intro _ _; go_simp)
    (hs : Region.noSelect ops = true := by kernel_rfl) (hf : Region.free md ops listed i = true := by kernel_rfl) (hr : (Region.ready md ops listed).contains i = true := by kernel_rfl) (hw : st.contains i = false := by kernel_rfl) (hQ : ∀ c a w, Q (.panic c) (a.put oi.dst v) w → Q (.panic c) a w := by exact fun _ _ _ h => h) (hwt : Region.wanted oi (yielded ops a.tmps) = true := by rfl) : wpAnyS P md ops Q C st (fuel + 1) listed a w :=
  wpAnyS_pure hi hs hf hr hw hQ (Or.inl ⟨hwt, hy⟩) hC h
/-- a load -/
theorem tkT (i : Nat) (v : Value) {oi : Oper} {fuel : Nat} {listed : Array Bool} {a : Act} {w : World} (hC : C w) (h : wpAnyS P md ops Q C st fuel (listed.setIfInBounds i true) (a.put oi.dst v) w) (hi : ops[i]? = some oi := by rfl) (hy : ∀ w, C w → (execOp a.eval oi).run P w = .ok (.value v) w := by intro _ _; go_simp)
    (hs : Region.noSelect ops = true := by kernel_rfl) (hf : Region.free md ops listed i = true := by kernel_rfl) (hr : (Region.ready md ops listed).contains i = true := by kernel_rfl) (hw : waitsB md ops st i = true := by kernel_rfl) (hn : (st.all fun s => !(listed.getD s true)) = true := by kernel_rfl) (hcl : clB md ops listed = true := by kernel_rfl) (hQ : ∀ c a w, Q (.panic c) (a.put oi.dst v) w → Q (.panic c) a w := by exact fun _ _ _ h => h) (hwt : Region.wanted oi (yielded ops a.tmps) = true := by rfl) : wpAnyS P md ops Q C st (fuel + 1) listed a w :=
  wpAnyS_take hi hs hf hr hw hn hcl hQ (Or.inl ⟨hwt, hy⟩) hC h
/-- one alone may come up -/
theorem opHs (i : Nat) {o : Oper} {fuel : Nat} {listed : Array Bool} {a : Act} {w : World} (h : ∀ K' : Act → World → Prop, (∀ a w, ((noSt st (listed.setIfInBounds i true) → C w) ∧ wpAnyS P md ops Q C st fuel (listed.setIfInBounds i true) a w) → K' a w) → Oper.wp P o a w K' Q) (ho : ops[i]? = some o := by rfl) (hw : Region.wanted o (yielded ops a.tmps) = true := by rfl) (hr : Region.ready md ops listed = [i] := by kernel_rfl) : wpAnyS P md ops Q C st (fuel + 1) listed a w :=
  wpAnyS_one hr (wpOp_step ho (fun K' hK' => by rw [if_pos hw]; exact h K' hK'))
end

end Go.Proofs.YtmmgkdcojkmlcaaGreatDoor

namespace Go.Proofs.YtmmgkdcojkmlcaaGreatDoor
open Go.RowKit

set_option maxRecDepth 100000 in
set_option maxHeartbeats 2000000 in
theorem write_any (p N fd wr fb : Nat) (op a b c : Int) (s : LwS) (w : World) (h3 : 3 ≤ p) (hm : p ≤ 2147483647) (h : LoW p N fd wr fb w s) (hsm : s.L.length + 1 ≤ 1000000) (ha : I64z a) (hb : I64z b) (hc : I64z c) :
    Calls Tryz.prog 44 #[.pointer (some ⟨wr, 0, none⟩), .int .i64 op, .int .i64 a, .int .i64 b, .int .i64 c] w fun e w' => (∃ v, e = .returned v) ∧ LoW p N fd wr fb w' (s.wr p op a b c) ∧ LoK false none N w w' := by
  have HL := hid (leave_any p N fd wr fb s w h (by omega))
  have HF : Hid (∀ W, LoW p N fd wr fb W s.lv → Calls Tryz.prog 50 #[.pointer (some ⟨wr, 0, none⟩), .int .i64 (s.L.length : Int), .int .i64 op, .int .i64 a, .int .i64 b, .int .i64 c] W fun e w' => (∃ v, e = .returned v) ∧ LoW p N fd wr fb w' (s.wr p op a b c) ∧ LoK false none N W w') := fun W hW =>
    (fill_any p N fd wr fb s.L.length op a b c s.lv W h3 hm hW (by simp [LwS.lv]) (by simp [LwS.lv]; omega) ha hb hc).mono fun _ _ ⟨a, b, c, _⟩ => ⟨a, b, c⟩
  generalize (s.L.length : Int) = k at *
  clear h h3 hm hsm ha hb hc
  go_enter Tryz.func44, Tryz.ntmps44
  go_wp2_with fail
  refine HL.out.mono ?_
  rintro e w1 ⟨rfl, hl1, hk1, _⟩
  have HK1 := hid hk1
  have HF1 := hid (HF.out w1 hl1)
  clear hl1 hk1 HF HL
  go_wp2_with fail
  refine HF1.out.mono ?_
  rintro e w2 ⟨⟨v, rfl⟩, hl2, hk2⟩
  go_wp2_with fail
  go_end0
  exact ⟨⟨_, rfl⟩, hl2, HK1.out.trans hk2⟩

set_option maxRecDepth 100000 in
set_option maxHeartbeats 4000000 in
theorem call_any (p N fd wr fb : Nat) (nm : List UInt8) (s : LwS) (w : World) (h : LoW p N fd wr fb w s) (hsm : s.L.length + 1 ≤ 1000000) (hsc : s.cl.length + 1 ≤ 1000000) :
    Calls Tryz.prog 45 #[.pointer (some ⟨wr, 0, none⟩), .string (bs nm)] w fun e w' => (∃ v, e = .returned v) ∧ LoW p N fd wr fb w' (s.ca nm) ∧ LoK false none N w w' := by
  have hmx : Tryz.prog.follows .mixedOrders = true := by kernel_rfl
  have HL := hid (leave_any p N fd wr fb s w.drew (h.below (below_drewN (Below.refl _ _) 1)) (by omega))
  obtain ⟨lv, cv, h3, h4, h5⟩ := h.str
  have hNw : N ≤ w.heap.size := Nat.le_of_lt (Nat.lt_of_le_of_lt h.hN h.lt)
  have HC : Hid (w.cell? ⟨wr, 2, none⟩ = some cv) := by unfold Hid; simp [World.cell?, h3]
  obtain ⟨i0, hi, hz0, hz1, hz2⟩ := info_parts (show (Tryz.prog.info? 122).map (fun i => (i.zero, i.size, i.bytes)) = some (some (.agg #[.int .i64 0, .string ⟨#[]⟩]), 2, 24) by kernel_rfl)
  obtain ⟨n, hn⟩ : ∃ n, n = s.L.length := ⟨_, rfl⟩
  obtain ⟨m, hm⟩ : ∃ m, m = s.cl.length := ⟨_, rfl⟩
  have HN := hid hn
  have HM := hid hm
  have HNw := hid hNw
  have HI := hid (And.intro hi (And.intro hz0 (And.intro hz1 hz2)))
  rw [← hn] at hsm HL
  rw [← hm] at hsc
  have HSC := hid hsc
  have HH := hid h
  clear h3 h4 h5 hn hm hNw hi hz0 hz1 hz2 hsm hsc h
  go_enter Tryz.func45, Tryz.ntmps45
  go_wp2_with fail
  refine wp_region_S (C := fun W => W.cell? ⟨wr, 2, none⟩ = some cv) (st := [13]) hmx ?_
  refine tkS 0 (.pointer (some ⟨wr, 0, none⟩)) (fun _ => HC.out) ?_
  refine tkS 1 (.pointer (some ⟨wr, 0, none⟩)) (fun _ => HC.out) ?_
  refine tkS 2 (.pointer (some ⟨wr, 0, none⟩)) (fun _ => HC.out) ?_
  refine tkS 3 (.pointer (some ⟨wr, 2, none⟩)) (fun _ => HC.out) ?_
  refine tkT 4 (cv) (HC.out) ?_
  refine tkS 5 (.pointer (some ⟨wr, 0, none⟩)) (fun _ => HC.out) ?_
  refine tkS 7 (.string (bs nm)) (fun _ => HC.out) ?_
  refine opHs 6 fun K' hK' => ?_
  go_simp
  refine (HL.out).mono ?_
  rintro e w1 ⟨rfl, hl1, hk1, hc1⟩
  have hcc : w1.cell? ⟨wr, 2, none⟩ = some cv := hc1.trans HC.out
  refine hK' _ _ ⟨fun _ => hcc, ?_⟩
  clear hK' K'
  refine tkS 8 (.agg #[.int .i64 (n : Int), .string (bs nm)]) (fun _ => hcc) ?_
  obtain ⟨W2, hW2⟩ : ∃ W, W = w1.alloc (.cells #[.int .i64 (n : Int), .string (bs nm)] 122) := ⟨_, rfl⟩
  obtain ⟨lv2, cv2, g3, g4, g5⟩ := hl1.str
  have ecv0 : w1.cell? ⟨wr, 2, none⟩ = some cv2 := by simp [World.cell?, g3]
  have ecv : cv2 = cv := by rw [hcc] at ecv0; injection ecv0 with ecv0; exact ecv0.symm
  subst ecv
  have hs2 : W2.heap.size = w1.heap.size + 1 := by rw [hW2]; simp
  have hq2 : W2.heap[w1.heap.size]? = some (.cells #[.int .i64 (n : Int), .string (bs nm)] 122 (0, 0)) := by rw [hW2]; exact heap_alloc_new w1 _
  have hb2 : Below w1.heap.size w1 W2 := by rw [hW2]; exact (Below.refl _ _).alloc (Nat.le_refl _) _
  have ho2 : W2.ownsRow N 122 2 cv2 s.cl.length (clV s.cl) := by rw [hW2]; exact World.ownsRow.alloc g5 _
  have hl2 := hl1.below hb2
  have h2c : W2.cell? ⟨wr, 2, none⟩ = some cv2 := (hb2.cell (p := ⟨wr, 2, none⟩) hl1.lt).trans hcc
  refine opHs 9 fun K' hK' => ?_
  go_simp
  refine hK' _ _ ⟨fun _ => (by first | exact h2c | (rw [← hW2]; exact h2c)), ?_⟩
  clear hK' K'
  obtain ⟨v', w5, hrun, hown, hgr, hnil, hblk⟩ := run_append_own_at (P := Tryz.prog) W2 N 84 84 122 i0 (.agg #[.int .i64 0, .string ⟨#[]⟩]) 2 24 Tryz.underlying84 HI.out.1 HI.out.2.1 HI.out.2.2.1 HI.out.2.2.2 rfl (by decide) cv2 s.cl.length (clV s.cl) ho2 ⟨w1.heap.size, 0, none⟩ 1 1 [.int .i64 (n : Int), .string (bs nm)] rfl (by
    intro j u hu
    match j, hu with
    | 0, hu => simp at hu; subst hu; simp [World.cell?, Addr.add, hq2]
    | 1, hu => simp at hu; subst hu; simp [World.cell?, Addr.add, hq2]
    | j + 2, hu => simp at hu) (by simp [Value.oneCell']) (by have := HSC.out; have := HM.out; unfold maxLen; omega) (by have := HSC.out; have := HM.out; omega) (by have := HNw.out; have := hk1.bel.size; have e : w.drew.heap.size = w.heap.size := rfl; omega)
  have g3' := (hb2.block wr (Array.getElem?_eq_some_iff.1 g3).1).trans g3
  have hw5 : w5.heap[wr]? = some (.cells #[.pointer (some ⟨fd, 0, none⟩), lv2, cv2, .map (some fb)] 86 (0, 0)) := by
    rcases own_ne ho2 g3' (by decide) with hne | hne
    · exact (hgr.block wr (Array.getElem?_eq_some_iff.1 g3').1 (by rw [hne]; simp)).trans g3'
    · exact (hgr.block wr (Array.getElem?_eq_some_iff.1 g3').1 (fun e => hne e.symm)).trans g3'
  have h5c : w5.cell? ⟨wr, 2, none⟩ = some cv2 := by simp [World.cell?, hw5]
  have h5f : w5.frozen? ⟨wr, 2, none⟩ = false := by simp [World.frozen?, hw5]
  rcases hown.2 with ⟨_, h0⟩ | ⟨g, cap, cur, hv', hgN, hgc, _⟩
  · exact absurd h0 (by omega)
  subst hv'
  refine opHs 10 fun K' hK' => ?_
  refine rg_appendU _ _ 84 84 rfl _ _ (.slice (some ⟨g, 0, none⟩) (s.cl.length + 1) cap) rfl rfl (by first | exact hrun | (rw [← hW2]; exact hrun)) ?_
  refine hK' _ _ ⟨fun _ => h5c, ?_⟩
  clear hK' K'
  refine tkS 11 (.pointer (some ⟨wr, 0, none⟩)) (fun _ => h5c) ?_
  refine tkS 12 (.pointer (some ⟨wr, 2, none⟩)) (fun _ => h5c) ?_
  refine opHs 13 fun K' hK' => ?_
  go_simp
  refine hK' _ _ ⟨fun h => absurd (h 13 (by simp)) (by decide), ?_⟩
  clear hK' K'
  refine wpAnyS_done (by kernel_rfl) ?_ _
  obtain ⟨W7, hW7⟩ : ∃ W, W = w5.setCell ⟨wr, 2, none⟩ (.slice (some ⟨g, 0, none⟩) (s.cl.length + 1) cap) := ⟨_, rfl⟩
  have hgb : w5.grownBy W7 (some wr) := by rw [hW7]; exact gb_one _ _ _ _
  have hw7 : W7.heap[wr]? = some (.cells #[.pointer (some ⟨fd, 0, none⟩), lv2, .slice (some ⟨g, 0, none⟩) (s.cl.length + 1) cap, .map (some fb)] 86 (0, 0)) := by rw [hW7]; exact heap_setCell_same w5 wr 2 _ _ _ hw5
  obtain ⟨fcs, ff, hf1, hf2⟩ := hl2.fld
  have hkeep : ∀ {b : Nat} {cs : Array Value} {t : TypeId} {f : Nat × Nat}, W2.heap[b]? = some (.cells cs t f) → t ≠ 122 → t ≠ 86 → W7.heap[b]? = W2.heap[b]? := @fun b cs t f hb ht ht2 => by
    have e1 : w5.heap[b]? = W2.heap[b]? := by
      rcases own_ne ho2 hb ht with hne | hne
      · exact hgr.block _ (Array.getElem?_eq_some_iff.1 hb).1 (by rw [hne]; simp)
      · exact hgr.block _ (Array.getElem?_eq_some_iff.1 hb).1 (fun e => hne e.symm)
    refine (hgb.block _ (Array.getElem?_eq_some_iff.1 (e1.trans hb)).1 (fun e => ?_)).trans e1
    injection e with e
    subst e
    rw [e1, hb] at hw5
    injection hw5 with hw5
    injection hw5 with _ hw5 _
    exact ht2 hw5
  have hlv5 : w5.ownsRow N 35 4 lv2 s.lv.L.length (insV s.lv.L) := by
    have g4' : W2.ownsRow N 35 4 lv2 s.lv.L.length (insV s.lv.L) := by rw [hW2]; exact World.ownsRow.alloc g4 _
    refine g4'.kept hgr ?_
    cases hlb : cv2.ownBlock with
    | none => cases lv2.ownBlock <;> simp
    | some b =>
      obtain ⟨_, cs, f, hc⟩ := own_obj ho2 b hlb
      exact own_ne g4' hc (by decide)
  have hLW : LoW p N fd wr fb W7 (s.ca nm) := by
    refine ⟨⟨fcs, ff, (hkeep hf1 (by decide) (by decide)).trans hf1, hf2⟩, ⟨lv2, _, hw7, hlv5.kept hgb (own_ne hlv5 hw5 (by decide)), ?_⟩, hl1.hN⟩
    have h6 := hown.kept hgb (own_ne hown hw5 (by decide))
    have e1 : (s.ca nm).cl.length = s.cl.length + 1 := by simp [LwS.ca]
    have e2 : clV (s.ca nm).cl = clV s.cl ++ [.int .i64 (n : Int), .string (bs nm)] := by rw [HN.out]; exact clV_app _ _
    rw [e1, e2]
    exact h6
  have hLK : LoK false none N w W7 := by
    have k0 : LoK false none N w w.drew := LoK.below (below_drewN (Below.refl _ _) 1) HNw.out
    have k2 : LoK false none N w1 W2 := LoK.below hb2 (Nat.le_of_lt (Nat.lt_of_le_of_lt hl1.hN hl1.lt))
    have k3 : LoK false none N W2 w5 := LoK.grown hgr (fun b hb => by
      obtain ⟨h1, cs, f, h2⟩ := own_obj ho2 b hb
      exact ⟨h1, _, h2, by simp [loT]⟩) (Nat.le_of_lt (Nat.lt_of_le_of_lt hl2.hN hl2.lt))
    have k4 : LoK false none N w5 W7 := by rw [hW7]; exact LoK.set hw5 (by simp [loT]) hl1.hN _
    exact (((k0.trans hk1).trans k2).trans k3).trans k4
  go_end0
  rw [← hW7]
  exact ⟨⟨_, rfl⟩, hLW, hLK⟩

end Go.Proofs.YtmmgkdcojkmlcaaGreatDoor

namespace Go.Proofs.YtmmgkdcojkmlcaaGreatDoor
open Go.RowKit

/-- what a function is written with, in memory -/
structure LoB (p N fd wr fb b Mb : Nat) (z : Int) (w : World) (s : LwS) : Prop where
  wr' : LoW p N fd wr fb w s
  body : w.heap[b]? = some (.cells #[.pointer (some ⟨wr, 0, none⟩), .map (some Mb), .int .i64 z, .int .i64 (s.cells : Int)] 117 (0, 0))
  map : MapI nmk (fun x => x.length ≤ 4000) w Mb s.M
  hb : N ≤ b
  hM : N ≤ Mb
theorem LoB.lt {p N fd wr fb b Mb : Nat} {z : Int} {w : World} {s : LwS} (h : LoB p N fd wr fb b Mb z w s) : b < w.heap.size := (Array.getElem?_eq_some_iff.1 h.body).1
theorem LoB.below {p N fd wr fb b Mb : Nat} {z : Int} {w w' : World} {s : LwS} (h : LoB p N fd wr fb b Mb z w s) (e : Below w.heap.size w w') : LoB p N fd wr fb b Mb z w' s :=
  ⟨h.wr'.below e, (e.block b h.lt).trans h.body, h.map.below e, h.hb, h.hM⟩
/-- behind a call of the writer's -/
theorem LoB.step {p N fd wr fb b Mb : Nat} {z : Int} {w w' : World} {s s' : LwS} (h : LoB p N fd wr fb b Mb z w s) (hw : LoW p N fd wr fb w' s') (k : LoK false none N w w') (hc : s'.cells = s.cells) (hM : s'.M = s.M) : LoB p N fd wr fb b Mb z w' s' := by
  refine ⟨hw, ?_, ?_, h.hb, h.hM⟩
  · rw [hc]
    exact (k.keep b _ h.body (by simp [loT]) (by simp)).trans h.body
  · rw [hM]
    obtain ⟨es, cl, hm, _⟩ := h.map
    exact h.map.block (k.keep Mb _ hm rfl (by simp))
theorem LoW.cells {p N fd wr fb : Nat} {w : World} {s s' : LwS} (h : LoW p N fd wr fb w s) (h1 : s'.L = s.L) (h2 : s'.cl = s.cl) : LoW p N fd wr fb w s' := by
  obtain ⟨a, b, c⟩ := h
  rw [← h1, ← h2] at b
  exact ⟨a, b, c⟩
/-- a store into the body -/
theorem LoB.set {p N fd wr fb b Mb : Nat} {z : Int} {w : World} {s : LwS} (h : LoB p N fd wr fb b Mb z w s) (c : Nat) : LoB p N fd wr fb b Mb z (w.setCell ⟨b, 3, none⟩ (.int .i64 (c : Int))) (s.sC c) ∧ LoK true (some Mb) N w (w.setCell ⟨b, 3, none⟩ (.int .i64 (c : Int))) := by
  have hgb := gb_one w b 3 (.int .i64 (c : Int))
  have ho : ∀ j, j ≠ b → (w.setCell ⟨b, 3, none⟩ (.int .i64 (c : Int))).heap[j]? = w.heap[j]? := fun j hj => Below.heap_setCell _ _ _ _ hj
  have hne : ∀ {g : Nat} {cs : Array Value} {t : TypeId} {f : Nat × Nat}, w.heap[g]? = some (.cells cs t f) → t ≠ 117 → g ≠ b := fun hb ht e => by
    subst e
    rw [h.body] at hb
    injection hb with hb
    injection hb with _ hb _
    exact ht hb.symm
  obtain ⟨fcs, ff, hf1, hf2⟩ := h.wr'.fld
  obtain ⟨lv, cv, h3, h4, h5⟩ := h.wr'.str
  obtain ⟨es, cl, hm, hr⟩ := h.map
  have hMb : Mb ≠ b := fun e => by subst e; rw [h.body] at hm; cases hm
  refine ⟨⟨⟨⟨fcs, ff, (ho fd (hne hf1 (by decide))).trans hf1, hf2⟩, ⟨lv, cv, (ho wr (hne h3 (by decide))).trans h3, h4.kept hgb (own_ne h4 h.body (by decide)), h5.kept hgb (own_ne h5 h.body (by decide))⟩, h.wr'.hN⟩, heap_setCell_same w b 3 _ _ _ h.body, h.map.block (ho Mb hMb), h.hb, h.hM⟩, LoK.set h.body (by simp [loT]) h.hb _⟩

set_option maxRecDepth 100000 in
set_option maxHeartbeats 2000000 in
theorem cell_any (p N fd wr fb b Mb : Nat) (z : Int) (s : LwS) (w : World) (h : LoB p N fd wr fb b Mb z w s) (hc : s.cells ≤ 1000000) :
    Calls Tryz.prog 48 #[.pointer (some ⟨b, 0, none⟩)] w fun e w' => e = .returned (.int .i64 (s.cells : Int)) ∧ LoB p N fd wr fb b Mb z w' s.cell ∧ LoK true (some Mb) N w w' := by
  have HS := hid (h.set (s.cells + 1))
  have x3 : w.cell? ⟨b, 3, none⟩ = some (.int .i64 (s.cells : Int)) := by simp [World.cell?, h.body]
  have y3 : w.frozen? ⟨b, 3, none⟩ = false := by simp [World.frozen?, h.body]
  obtain ⟨n, hn⟩ : ∃ n, n = s.cells := ⟨_, rfl⟩
  rw [← hn] at x3 hc ⊢
  obtain ⟨m, hm⟩ : ∃ m, m = n + 1 := ⟨_, rfl⟩
  have hk : IntKind.i64.wrap ((n : Int) + 1) = (m : Int) := by rw [IntKind.wrap_i64]; omega
  have hk2 : IntKind.i64.wrap ((m : Int) - 1) = (n : Int) := by rw [IntKind.wrap_i64]; omega
  have HE : Hid (s.cells + 1 = m) := by unfold Hid; omega
  clear h hn hm
  go_enter Tryz.func48, Tryz.ntmps48
  go_wp2_with fail
  go_ret
  rw [← HE.out]
  exact ⟨rfl, HS.out.1, HS.out.2⟩

set_option maxRecDepth 100000 in
set_option maxHeartbeats 2000000 in
theorem between_any (k : Nat) (w : World) (h : 4 ≤ k ∧ k ≤ 8) :
    Calls Tryz.prog 91 #[.int .i64 (k : Int)] w fun e w' => e = .returned (.int .i64 (opL k)) ∧ w' = w := by
  have hk : k = 4 ∨ k = 5 ∨ k = 6 ∨ k = 7 ∨ k = 8 := by omega
  rcases hk with rfl | rfl | rfl | rfl | rfl
  all_goals
    go_enter Tryz.func91, Tryz.ntmps91
    go_wp2_with fail
    go_ret
    exact ⟨rfl, rfl⟩

end Go.Proofs.YtmmgkdcojkmlcaaGreatDoor

namespace Go.Proofs.YtmmgkdcojkmlcaaGreatDoor
open Go.RowKit

/-- no name stands for more than before -/
def SubM (s s' : LwS) : Prop := ∀ x v, s'.M x = some v → s.M x = some v
theorem SubM.refl (s : LwS) : SubM s s := fun _ _ h => h
theorem SubM.trans {a b c : LwS} (h : SubM a b) (k : SubM b c) : SubM a c := fun x v e => h x v (k x v e)
theorem SubM.v {q : KF} (h : ∀ to s, SubM s (q.f to s)) (s : LwS) : SubM s (q.v s).2 := by
  unfold KF.v
  split
  · exact SubM.refl s
  · exact fun x v e => h _ s.cell x v e
theorem pss_M (p : Nat) : ∀ (l : List Int) (i : Nat) (s : LwS), (pss p l i s).M = s.M ∧ (pss p l i s).cells = s.cells ∧ (pss p l i s).cl = s.cl ∧ (pss p l i s).L.length = s.L.length + l.length
  | [], _, _ => ⟨rfl, rfl, rfl, rfl⟩
  | x :: r, i, s => by
    have h := pss_M p r (i + 1) (s.wr p 13 x i 0)
    rw [pss]
    refine ⟨h.1, h.2.1, h.2.2.1, ?_⟩
    rw [h.2.2.2]
    simp [LwS.wr, LwS.fl, LwS.lv]
    omega
theorem SubM.let {s s' : LwS} {nm : List UInt8} {c : Int} (h : SubM (s.sM (updL s.M nm c)) s') : SubM s (s'.sM (delL s'.M nm)) := fun x v e => by
  by_cases hx : x = nm
  · simp [LwS.sM, delL, hx] at e
  · have e1 : s'.M x = some v := by simpa [LwS.sM, delL, hx] using e
    have e2 := h x v e1
    simpa [LwS.sM, updL, hx] using e2
mutual
theorem tlP_sub (p : Nat) (z : Int) : ∀ (t : Tr) (to : Int) (s : LwS), SubM s (tlP p z t to s)
  | .node k nm a n kids, to, s => by
    have hk := kvs_sub p z kids
    rw [tlP_node]
    unfold tlN
    split
    · exact SubM.refl s
    · split
      · exact SubM.refl s
      · split
        · refine (hk s).trans fun x v e => ?_
          have e2 : (pss p (kvs (kfP p z kids) s).1 0 (kvs (kfP p z kids) s).2).M x = some v := e
          rw [(pss_M p _ 0 _).1] at e2
          exact e2
        · match kids with
          | [] => rw [kfP_nil]; exact SubM.refl s
          | [x] => rw [kfP_cons, kfP_nil]; exact SubM.v (q := kfO p z x) (fun to s => tlP_sub p z x to s) s
          | [x, y] =>
            rw [kfP_cons, kfP_cons, kfP_nil]
            have hx := SubM.v (q := kfO p z x) (fun to s => tlP_sub p z x to s) s
            simp only
            split
            · exact hx.trans (SubM.let (tlP_sub p z y to _))
            · exact hx.trans (SubM.v (q := kfO p z y) (fun to s => tlP_sub p z y to s) _)
          | [x, y, u] =>
            rw [kfP_cons, kfP_cons, kfP_cons, kfP_nil]
            have hx := SubM.v (q := kfO p z x) (fun to s => tlP_sub p z x to s) s
            simp only
            split
            · exact (hx.trans (SubM.v (q := kfO p z y) (fun to s => tlP_sub p z y to s) _)).trans (fun a b c => tlP_sub p z u to (((kfO p z y).v ((kfO p z x).v s).2).2.wr p 7 ((kfO p z x).v s).1 ((kfO p z y).v ((kfO p z x).v s).2).1 0) a b c)
            · refine hx.trans ?_
              intro a b c
              have c1 := tlP_sub p z u to _ a b c
              exact tlP_sub p z y to ((kfO p z x).v s).2.lv a b c1
          | x :: y :: u :: v :: r => rw [kfP_cons, kfP_cons, kfP_cons, kfP_cons]; exact SubM.refl s
theorem kvs_sub (p : Nat) (z : Int) : ∀ (ts : List Tr) (s : LwS), SubM s (kvs (kfP p z ts) s).2
  | [], s => by rw [kfP_nil]; exact SubM.refl s
  | t :: r, s => by
    rw [kfP_cons]
    exact (SubM.v (q := kfO p z t) (fun to s => tlP_sub p z t to s) s).trans (kvs_sub p z r _)
end
/-- room for n parts -/
structure RmL (s : LwS) (n : Nat) : Prop where
  l : s.L.length + 3 * n ≤ 1000000
  c : s.cells + n ≤ 1000000
  k : s.cl.length + n ≤ 1000000
  m : ∀ x v, s.M x = some v → 0 ≤ v ∧ v ≤ 1000000
/-- room for a part that is told: its own cell is there already -/
structure RmT (s : LwS) (n : Nat) : Prop where
  l : s.L.length + 3 * n ≤ 1000000
  c : s.cells + n ≤ 1000001
  k : s.cl.length + n ≤ 1000000
  m : ∀ x v, s.M x = some v → 0 ≤ v ∧ v ≤ 1000000
theorem RmL.t {s : LwS} {n : Nat} (h : RmL s n) : RmT s n := ⟨h.l, by have := h.c; omega, h.k, h.m⟩
theorem RmL.cell {s : LwS} {n : Nat} (h : RmL s n) : RmT s.cell n := ⟨h.l, by have := h.c; show s.cells + 1 + n ≤ _; omega, h.k, h.m⟩
/-- room for the parts -/
theorem RmT.kids {s : LwS} {n : Nat} (h : RmT s (1 + n)) : RmL s n := ⟨by have := h.l; omega, by have := h.c; omega, by have := h.k; omega, h.m⟩
theorem RmL.less {s : LwS} {n m : Nat} (h : RmL s n) (e : m ≤ n) : RmL s m := ⟨by have := h.l; omega, by have := h.c; omega, by have := h.k; omega, h.m⟩
theorem RmL.of {s s' : LwS} {a n : Nat} (h : RmL s (a + n)) (e : LeL s s' (3 * a) a a) (u : SubM s s') : RmL s' n :=
  ⟨by have := h.l; have := e.l1; omega, by have := h.c; have := e.c1; omega, by have := h.k; have := e.k1; omega, fun x v g => h.m x v (u x v g)⟩
theorem RmL.tl {s : LwS} {n p : Nat} {z to : Int} {t : Tr} (h : RmL s (tsz t + n)) : RmL (tlP p z t to s) n :=
  h.of ((tlP_le p z t to s).more (by omega) (by omega) (by omega)) (tlP_sub p z t to s)
theorem RmL.v {s : LwS} {n p : Nat} {z : Int} {t : Tr} (h : RmL s (tsz t + n)) : RmL ((kfO p z t).v s).2 n :=
  h.of ((LeL.v (q := kfO p z t) (fun to s => tlP_le p z t to s) s).more (by omega) (by have := tsz_ps t; omega) (by omega)) (SubM.v (q := kfO p z t) (fun to s => tlP_sub p z t to s) s)
theorem RmL.wr {s : LwS} {n p : Nat} {op a b c : Int} (h : RmL s (n + 1)) : RmL (s.wr p op a b c) n :=
  ⟨by have := h.l; have := (LeL.wr s p op a b c).l1; omega, by have := h.c; exact Nat.le_trans (Nat.add_le_add_right (LeL.wr s p op a b c).c1 n) (by omega), by have := h.k; exact Nat.le_trans (Nat.add_le_add_right (LeL.wr s p op a b c).k1 n) (by omega), h.m⟩
theorem RmL.vb {s : LwS} {n p : Nat} {z : Int} {t : Tr} (h : RmL s (tsz t + n)) : 0 ≤ ((kfO p z t).v s).1 ∧ ((kfO p z t).v s).1 ≤ 1000000 := by
  unfold KF.v
  split
  · cases hM : s.M (kfO p z t).nm with
    | none => simp
    | some v => exact h.m _ v hM
  · have := h.c
    exact ⟨by simp, by simp only; omega⟩
theorem i64_of {n : Int} (h : 0 ≤ n ∧ n ≤ 1000000) : I64z n := ⟨by omega, by omega⟩
theorem ShP.lok {lo N : Nat} {b : Bool} {X : Option Nat} {w w' : World} {t : Tr} {vs : List Value} (h : ShP lo w t vs) (e : LoK b X N w w') (hX : ∀ x, X = some x → ∀ cs t f, w.heap[x]? ≠ some (.cells cs t f)) : ShP lo w' t vs :=
  ShP.keep (Nat.le_refl _) (fun g _ _ _ hg => e.keep g _ hg (by cases b <;> simp [loT]) (fun er => hX g er _ _ _ hg)) t vs h
theorem LoB.noX {p N fd wr fb b Mb : Nat} {z : Int} {w : World} {s : LwS} (h : LoB p N fd wr fb b Mb z w s) : ∀ x, (some Mb : Option Nat) = some x → ∀ cs t f, w.heap[x]? ≠ some (.cells cs t f) := fun x hx cs t f e => by
  injection hx with hx
  subst hx
  obtain ⟨es, cl, hm, _⟩ := h.map
  rw [hm] at e
  cases e
def TlC (p N fd wr fb b Mb : Nat) (z : Int) (t : Tr) : Prop := ∀ (to : Int) (s : LwS) (w : World) (lo : Nat) (vs : List Value), LoB p N fd wr fb b Mb z w s → ShP lo w t vs → RmT s (tsz t) → 0 ≤ to → to ≤ 1000000 →
  Calls Tryz.prog 70 #[.pointer (some ⟨b, 0, none⟩), .agg vs.toArray, .int .i64 to] w fun e w' => (∃ v, e = .returned v) ∧ LoB p N fd wr fb b Mb z w' (tlP p z t to s) ∧ LoK true (some Mb) N w w'
def VlC (p N fd wr fb b Mb : Nat) (z : Int) (t : Tr) : Prop := ∀ (s : LwS) (w : World) (lo : Nat) (vs : List Value), LoB p N fd wr fb b Mb z w s → ShP lo w t vs → RmL s (tsz t) →
  Calls Tryz.prog 49 #[.pointer (some ⟨b, 0, none⟩), .agg vs.toArray] w fun e w' => e = .returned (.int .i64 ((kfO p z t).v s).1) ∧ LoB p N fd wr fb b Mb z w' ((kfO p z t).v s).2 ∧ LoK true (some Mb) N w w'

end Go.Proofs.YtmmgkdcojkmlcaaGreatDoor

namespace Go.Proofs.YtmmgkdcojkmlcaaGreatDoor
open Go.RowKit

/-- what a body's blocks hold, as cells -/
theorem LoB.cells4 {p N fd wr fb b Mb : Nat} {z : Int} {w : World} {s : LwS} (h : LoB p N fd wr fb b Mb z w s) : w.cell? ⟨b, 0, none⟩ = some (.pointer (some ⟨wr, 0, none⟩)) ∧ w.cell? ⟨b, 1, none⟩ = some (.map (some Mb)) ∧ w.cell? ⟨b, 2, none⟩ = some (.int .i64 z) ∧ w.cell? ⟨b, 3, none⟩ = some (.int .i64 (s.cells : Int)) :=
  ⟨by simp [World.cell?, h.body], by simp [World.cell?, h.body], by simp [World.cell?, h.body], by simp [World.cell?, h.body]⟩
theorem LoB.look {p N fd wr fb b Mb : Nat} {z : Int} {w : World} {s : LwS} (h : LoB p N fd wr fb b Mb z w s) {nm : List UInt8} (hn : nm.length ≤ 4000) : (Instr.lookup 66 (.map (some Mb)) (.string (bs nm)) false).run Tryz.prog w = .ok (.int .i64 ((s.M nm).getD 0)) w := by
  have := MapI.lookup namK h.map hn false
  simpa [nmk] using this
/-- a part's four cells in a box -/
structure BxP (w W : World) (PB k num : Nat) (nm : List UInt8) (a' : Option Addr) (l c : Nat) : Prop where
  box : W.heap[PB]? = some (.cells #[.int .i64 (k : Int), .string (bs nm), .int .i64 (num : Int), .slice a' l c] 93 (0, 0))
theorem BxP.lok {w W W' : World} {PB k num l c N : Nat} {nm : List UInt8} {a' : Option Addr} {bb : Bool} {X : Option Nat} (h : BxP w W PB k num nm a' l c) (e : LoK bb X N W W') (hX : ∀ x, X = some x → ∀ cs t f, W.heap[x]? ≠ some (.cells cs t f)) : BxP w W' PB k num nm a' l c :=
  ⟨(e.keep PB _ h.box (by cases bb <;> simp [loT]) (fun er => hX PB er _ _ _ h.box)).trans h.box⟩
theorem BxP.four {w W : World} {PB k num l c : Nat} {nm : List UInt8} {a' : Option Addr} (h : BxP w W PB k num nm a' l c) : W.cell? ⟨PB, 0, none⟩ = some (.int .i64 (k : Int)) ∧ W.cell? ⟨PB, 1, none⟩ = some (.string (bs nm)) ∧ W.cell? ⟨PB, 2, none⟩ = some (.int .i64 (num : Int)) ∧ W.cell? ⟨PB, 3, none⟩ = some (.slice a' l c) :=
  ⟨by simp [World.cell?, h.box], by simp [World.cell?, h.box], by simp [World.cell?, h.box], by simp [World.cell?, h.box]⟩

set_option maxRecDepth 100000 in
set_option maxHeartbeats 4000000 in
theorem value_of (p N fd wr fb b Mb : Nat) (z : Int) (t : Tr) (hT : TW t) (HT : TlC p N fd wr fb b Mb z t) : VlC p N fd wr fb b Mb z t := by
  intro s w lo vs hB hS hR
  have hmx : Tryz.prog.follows .mixedOrders = true := by kernel_rfl
  have hS0 := hS
  obtain ⟨k, nm, at', num, kids⟩ := t
  have hnm : nm.length ≤ 4000 := by
    rcases hT.1 with h | h | h | h | h | h | h
    · rw [h.2.1]; simp
    · have := h.2.1.2.1; omega
    · have := h.2.1.2.1; omega
    · rw [h.2.1]; simp
    · rw [h.2.2.1]; simp
    · have := h.2.1.2.1; omega
    · rw [h.2.2.1]; simp
  obtain ⟨a', c, rfl, _⟩ := hS
  obtain ⟨l, hl⟩ : ∃ l, l = kids.length := ⟨_, rfl⟩
  rw [← hl] at hS0 ⊢
  obtain ⟨PB, hPB⟩ : ∃ P, P = w.heap.size := ⟨_, rfl⟩
  obtain ⟨W0, hW0⟩ : ∃ W, W = w.alloc (.cells #[.int .i64 (k : Int), .string (bs nm), .int .i64 (num : Int), .slice a' l c] 93) := ⟨_, rfl⟩
  have hb0 : Below w.heap.size w W0 := by rw [hW0]; exact (Below.refl _ _).alloc (Nat.le_refl _) _
  have hbx : BxP w W0 PB k num nm a' l c := ⟨by rw [hW0, hPB]; exact heap_alloc_new w _⟩
  have hk0 : LoK true (some Mb) N w W0 := LoK.below hb0 (Nat.le_of_lt (Nat.lt_of_le_of_lt hB.hb hB.lt))
  have HB0 := hid (hB.below hb0)
  have HS0 := hid (hS0.below hb0)
  have HK0 := hid hk0
  have HX := hid hbx
  have HR := hid hR
  have HW0 := hid hW0
  have HPB := hid hPB
  have HTT := hid HT
  have HNM := hid hnm
  obtain ⟨y0, y1, y2, y3⟩ := hbx.four
  by_cases hk1 : k = 1
  · have hq : ((k : Int) == 1) = true := by simp [hk1]
    have HV : Hid ((kfO p z (.node k nm at' num kids)).v s = ((s.M nm).getD 0, s)) := by unfold Hid KF.v; rw [if_pos (show (kfO p z (.node k nm at' num kids)).kd = 1 from hk1)]; rfl
    have HLK := hid ((hB.below (hb0.trans (below_drewN (Below.refl _ W0) 1 |>.mono hb0.size))).look hnm)
    obtain ⟨x0, x1, x2, x3⟩ := (HB0.out.cells4)
    have HSS : Hid (W0.drew.cell? ⟨b, 1, none⟩ = some (.map (some Mb)) ∧ W0.drew.cell? ⟨PB, 1, none⟩ = some (.string (bs nm)) ∧ (Instr.lookup 66 (.map (some Mb)) (.string (bs nm)) false).run Tryz.prog W0.drew = .ok (.int .i64 ((s.M nm).getD 0)) W0.drew) := ⟨x1, y1, HLK.out⟩
    clear hB hS0 hR hb0 hbx hk0 hW0 hPB HT hnm y1 y2 y3 x0 x1 x2 x3 hT hl hk1
    go_enter Tryz.func49, Tryz.ntmps49
    go_wp2_with fail
    rw [← HW0.out, ← HPB.out]
    go_wp2_with fail
    refine wp_region_held_drew (S := fun W => W.cell? ⟨b, 1, none⟩ = some (.map (some Mb)) ∧ W.cell? ⟨PB, 1, none⟩ = some (.string (bs nm)) ∧ (Instr.lookup 66 (.map (some Mb)) (.string (bs nm)) false).run Tryz.prog W = .ok (.int .i64 ((s.M nm).getD 0)) W) hmx HSS.out (fun hHeld => ?_)
    refine tkA 0 (.pointer (some ⟨b, 0, none⟩)) ?_
    simp only [putX]
    refine tkA 1 (.pointer (some ⟨b, 0, none⟩)) ?_
    simp only [putX]
    refine tkA 2 (.pointer (some ⟨b, 1, none⟩)) ?_
    simp only [putX]
    refine tkA 3 (.map (some Mb)) ?_
    simp only [putX]
    refine tkA 4 (.pointer (some ⟨PB, 1, none⟩)) ?_
    simp only [putX]
    refine tkA 5 (.string (bs nm)) ?_
    simp only [putX]
    refine tkA 6 (.int .i64 ((s.M nm).getD 0)) ?_
    simp only [putX]
    refine tkA 7 (.int .i64 ((s.M nm).getD 0)) ?_
    simp only [putX]
    refine wpAnyH_done (by kernel_rfl) ?_ _
    go_wp2_with fail
    go_ret
    rw [HV.out]
    exact ⟨rfl, HB0.out.below (below_drewN (Below.refl _ W0) 1), HK0.out.trans (LoK.below (below_drewN (Below.refl _ W0) 1) (Nat.le_of_lt (Nat.lt_of_le_of_lt HB0.out.hb HB0.out.lt)))⟩
  · have hq : ((k : Int) == 1) = false := by simp; omega
    have HV : Hid ((kfO p z (.node k nm at' num kids)).v s = ((s.cells : Int), tlP p z (.node k nm at' num kids) s.cells s.cell)) := by unfold Hid KF.v; rw [if_neg (show ¬ (kfO p z (.node k nm at' num kids)).kd = 1 from hk1)]; rfl
    have hc := hR.c
    have ht := tsz_ps (.node k nm at' num kids)
    have HC := hid (cell_any p N fd wr fb b Mb z s W0 HB0.out (by omega))
    obtain ⟨n, hn⟩ : ∃ n, n = s.cells := ⟨_, rfl⟩
    have HN := hid hn
    have HNB : Hid (n ≤ 1000000) := by unfold Hid; omega
    rw [← hn] at HC
    clear hB hS0 hR hb0 hbx hk0 hW0 hPB HT hnm y1 y2 y3 hT hl hk1 hc ht hn
    go_enter Tryz.func49, Tryz.ntmps49
    go_wp2_with fail
    rw [← HW0.out, ← HPB.out]
    refine HC.out.mono ?_
    rintro e w1 ⟨rfl, hb1, hk1⟩
    have hx1 := HX.out.lok hk1 HB0.out.noX
    have hs1 := HS0.out.lok hk1 HB0.out.noX
    obtain ⟨y0, y1, y2, y3⟩ := hx1.four
    have HTL := hid (HTT.out (n : Int) s.cell w1 lo _ hb1 hs1 HR.out.cell (by omega) (by have := HNB.out; omega))
    have HK1 := hid (HK0.out.trans hk1)
    have HX1 := hid hx1
    clear hx1 hs1 hb1 hk1 y0
    go_wp2_with (refine wpList_load_row rfl 93 _ rfl PB rfl _ _ _ _ HX1.out.box Tryz.underlying93 rfl (by kernel_rfl) ?_)
    refine HTL.out.mono ?_
    rintro e w2 ⟨⟨v, rfl⟩, hb2, hk2⟩
    go_wp2_with fail
    go_ret
    rw [HV.out, ← HN.out]
    exact ⟨rfl, hb2, HK1.out.trans hk2⟩

end Go.Proofs.YtmmgkdcojkmlcaaGreatDoor

namespace Go.Proofs.YtmmgkdcojkmlcaaGreatDoor
open Go.RowKit

theorem ShPs.lok {lo N : Nat} {b : Bool} {X : Option Nat} {w w' : World} {a : Option Addr} {ts : List Tr} {i : Nat} (h : ShPs lo w a ts i) (e : LoK b X N w w') (hX : ∀ x, X = some x → ∀ cs t f, w.heap[x]? ≠ some (.cells cs t f)) : ShPs lo w' a ts i :=
  ShPs.keep (Nat.le_refl _) (fun g _ _ _ hg => e.keep g _ hg (by cases b <;> simp [loT]) (fun er => hX g er _ _ _ hg)) a ts i h
theorem ShPs.kid {lo : Nat} {w : World} {a : Option Addr} {ts : List Tr} (h : ShPs lo w a ts 0) (k : Nat) (t : Tr) (hk : ts[k]? = some t) : ∃ g v0 v1 v2 v3, a = some ⟨g, 0, none⟩ ∧ w.cell? ⟨g, k * 4, none⟩ = some v0 ∧ w.cell? ⟨g, k * 4 + 1, none⟩ = some v1 ∧ w.cell? ⟨g, k * 4 + 2, none⟩ = some v2 ∧ w.cell? ⟨g, k * 4 + 3, none⟩ = some v3 ∧ ShP lo w t [v0, v1, v2, v3] := by
  obtain ⟨g, v0, v1, v2, v3, h1, _, h2, h3, h4, h5, h6⟩ := ShPs.get h k t hk
  rw [Nat.zero_add] at h2 h3 h4 h5
  exact ⟨g, v0, v1, v2, v3, h1, h2, h3, h4, h5, h6⟩
theorem ShPs.below {lo : Nat} {w w' : World} {a : Option Addr} {ts : List Tr} {i : Nat} (h : ShPs lo w a ts i) (e : Below w.heap.size w w') : ShPs lo w' a ts i :=
  ShPs.keep (Nat.le_refl _) (fun g _ _ _ h => e.block g (Array.getElem?_eq_some_iff.1 h).1) a ts i h
/-- a part's four cells in a box, its kind a number -/
structure BxK (W : World) (PB num : Nat) (kz : Int) (nm : List UInt8) (a' : Option Addr) (l c : Nat) : Prop where
  box : W.heap[PB]? = some (.cells #[.int .i64 kz, .string (bs nm), .int .i64 (num : Int), .slice a' l c] 93 (0, 0))
theorem BxK.lok {W W' : World} {PB num l c N : Nat} {kz : Int} {nm : List UInt8} {a' : Option Addr} {bb : Bool} {X : Option Nat} (h : BxK W PB num kz nm a' l c) (e : LoK bb X N W W') (hX : ∀ x, X = some x → ∀ cs t f, W.heap[x]? ≠ some (.cells cs t f)) : BxK W' PB num kz nm a' l c :=
  ⟨(e.keep PB _ h.box (by cases bb <;> simp [loT]) (fun er => hX PB er _ _ _ h.box)).trans h.box⟩
theorem BxK.four {W : World} {PB num l c : Nat} {kz : Int} {nm : List UInt8} {a' : Option Addr} (h : BxK W PB num kz nm a' l c) : W.cell? ⟨PB, 0, none⟩ = some (.int .i64 kz) ∧ W.cell? ⟨PB, 1, none⟩ = some (.string (bs nm)) ∧ W.cell? ⟨PB, 2, none⟩ = some (.int .i64 (num : Int)) ∧ W.cell? ⟨PB, 3, none⟩ = some (.slice a' l c) :=
  ⟨by simp [World.cell?, h.box], by simp [World.cell?, h.box], by simp [World.cell?, h.box], by simp [World.cell?, h.box]⟩
/-- where a function stands that was handed a part -/
structure TlI (p N fd wr fb b Mb : Nat) (z : Int) (lo PB num : Nat) (kz : Int) (nm : List UInt8) (a' : Option Addr) (l c : Nat) (kids : List Tr) (w W : World) (s : LwS) : Prop where
  lb : LoB p N fd wr fb b Mb z W s
  bx : BxK W PB num kz nm a' l c
  sh : ShPs lo W a' kids 0
  lk : LoK true (some Mb) N w W
theorem TlI.step {p N fd wr fb b Mb : Nat} {z : Int} {lo PB num : Nat} {kz : Int} {nm : List UInt8} {a' : Option Addr} {l c : Nat} {kids : List Tr} {w W W' : World} {s s' : LwS} (h : TlI p N fd wr fb b Mb z lo PB num kz nm a' l c kids w W s) (hb : LoB p N fd wr fb b Mb z W' s') (k : LoK true (some Mb) N W W') : TlI p N fd wr fb b Mb z lo PB num kz nm a' l c kids w W' s' :=
  ⟨hb, h.bx.lok k h.lb.noX, h.sh.lok k h.lb.noX, h.lk.trans k⟩
theorem TlI.begin {p N fd wr fb b Mb : Nat} {z : Int} {lo num : Nat} {kz : Int} {nm : List UInt8} {a' : Option Addr} {l c : Nat} {kids : List Tr} {w : World} {s : LwS} (hB : LoB p N fd wr fb b Mb z w s) (hS : ShPs lo w a' kids 0) : TlI p N fd wr fb b Mb z lo w.heap.size num kz nm a' l c kids w (w.alloc (.cells #[.int .i64 kz, .string (bs nm), .int .i64 (num : Int), .slice a' l c] 93)) s := by
  have hb0 : Below w.heap.size w (w.alloc (.cells #[.int .i64 kz, .string (bs nm), .int .i64 (num : Int), .slice a' l c] 93)) := (Below.refl _ _).alloc (Nat.le_refl _) _
  exact ⟨hB.below hb0, ⟨heap_alloc_new w _⟩, hS.below hb0, LoK.below hb0 (Nat.le_of_lt (Nat.lt_of_le_of_lt hB.hb hB.lt))⟩
theorem LoB.nle {p N fd wr fb b Mb : Nat} {z : Int} {w : World} {s : LwS} (h : LoB p N fd wr fb b Mb z w s) : N ≤ w.heap.size := Nat.le_of_lt (Nat.lt_of_le_of_lt h.hb h.lt)

set_option maxRecDepth 100000 in
set_option maxHeartbeats 4000000 in
theorem ltwo_of (p N fd wr fb b Mb : Nat) (z : Int) (x y : Tr) (rest : List Tr) (HVX : VlC p N fd wr fb b Mb z x) (HVY : VlC p N fd wr fb b Mb z y) (s : LwS) (w : World) (lo num : Nat) (kz : Int) (nm : List UInt8) (a' : Option Addr) (l c : Nat) (hl : l = (x :: y :: rest).length) (hB : LoB p N fd wr fb b Mb z w s) (hS : ShPs lo w a' (x :: y :: rest) 0) (hR : RmL s (tsz x + tsz y)) :
    Calls Tryz.prog 89 #[.pointer (some ⟨b, 0, none⟩), .agg #[.int .i64 kz, .string (bs nm), .int .i64 (num : Int), .slice a' l c]] w fun e w' => e = .returned (.tuple #[.int .i64 ((kfO p z x).v s).1, .int .i64 ((kfO p z y).v ((kfO p z x).v s).2).1]) ∧ LoB p N fd wr fb b Mb z w' ((kfO p z y).v ((kfO p z x).v s).2).2 ∧ LoK true (some Mb) N w w' := by
  have HI0 := hid (TlI.begin (num := num) (kz := kz) (nm := nm) (l := l) (c := c) hB hS)
  obtain ⟨PB, hPB⟩ : ∃ P, P = w.heap.size := ⟨_, rfl⟩
  obtain ⟨W0, hW0⟩ : ∃ W, W = w.alloc (.cells #[.int .i64 kz, .string (bs nm), .int .i64 (num : Int), .slice a' l c] 93) := ⟨_, rfl⟩
  rw [← hPB, ← hW0] at HI0
  have HPB := hid hPB
  have HW0 := hid hW0
  have HR := hid hR
  have HX := hid HVX
  have HY := hid HVY
  have h2 : (1 : Int) < (l : Int) := by rw [hl]; simp; omega
  have h1 : (0 : Int) < (l : Int) := by omega
  obtain ⟨g, v0, v1, v2, v3, ha, c0, c1, c2, c3, hp⟩ := HI0.out.sh.kid 0 x rfl
  subst ha
  simp only [Nat.zero_mul, Nat.zero_add] at c0 c1 c2 c3
  obtain ⟨y0, y1, y2, y3⟩ := HI0.out.bx.four
  have HC := hid (HX.out s W0 lo _ HI0.out.lb hp (hR.less (by omega)))
  have HRY := hid (RmL.v (p := p) (z := z) hR)
  clear hB hS hPB hW0 hR HVX HVY hl hp y0 y1 y2
  go_enter Tryz.func89, Tryz.ntmps89
  go_wp2_with (rw [← HW0.out, ← HPB.out])
  refine HC.out.mono ?_
  rintro e w1 ⟨rfl, hb1, hk1⟩
  have HI1 := hid (HI0.out.step hb1 hk1)
  clear c0 c1 c2 c3 y3 hb1 hk1 HC
  obtain ⟨g', v0', v1', v2', v3', ha, c0, c1, c2, c3, hp⟩ := HI1.out.sh.kid 1 y rfl
  injection ha with ha
  injection ha with ha
  subst ha
  simp only [Nat.reduceAdd, Nat.one_mul] at c0 c1 c2 c3
  obtain ⟨y0, y1, y2, y3⟩ := HI1.out.bx.four
  have HC := hid (HY.out _ w1 lo _ HI1.out.lb hp HRY.out)
  clear hp y0 y1 y2
  go_wp2_with fail
  refine HC.out.mono ?_
  rintro e w2 ⟨rfl, hb2, hk2⟩
  go_wp2_with fail
  go_ret2
  exact ⟨rfl, hb2, HI1.out.lk.trans hk2⟩

end Go.Proofs.YtmmgkdcojkmlcaaGreatDoor
