/- What gates.Make has told so far, in memory: lists of rounds, lines. Package gates: Check. -/
import Derived.Test.YtpgnabmkfkcogaaGreatDoorGuK
import Derived.Test.YtpgnabmkfkcogaaGreatDoorGuE
import Derived.Test.YtpgnabmkfkcogaaGreatDoorGqAO
namespace Go.Proofs.YtpgnabmkfkcogaaGreatDoor
open Go.RowKit

theorem Tryz.infoSl2 : (Tryz.prog.info? 22).map (fun i => (i.zero, i.size, i.bytes)) = some (some (.slice none 0 0), 1, 24) := by kernel_rfl
/-- blocks of numbers and of lists of numbers stay -/
def KJ (w w' : World) : Prop := w.heap.size ≤ w'.heap.size ∧ ∀ (b : Nat) (cs : Array Value) (t : TypeId) (f : Nat × Nat), w.heap[b]? = some (.cells cs t f) → (t = 3 ∨ t = 23) → w'.heap[b]? = w.heap[b]?
theorem KJ.below {w w' : World} (e : Below w.heap.size w w') : KJ w w' := ⟨e.size, fun b _ _ _ h _ => e.block b (Array.getElem?_eq_some_iff.1 h).1⟩
theorem KJ.other {w w' : World} {x : Nat} {c : Array Value} {t : TypeId} {f : Nat × Nat} (e : w.grownBy w' (some x)) (hx : w.heap[x]? = some (.cells c t f)) (h1 : t ≠ 3) (h2 : t ≠ 23) : KJ w w' :=
  ⟨e.size, fun b cs t' f' hb ht => gb_blk e (Array.getElem?_eq_some_iff.1 hb).1 (fun he => by
    rw [he, hx] at hb
    simp at hb
    rcases ht with h | h
    · exact h1 (hb.2.1.trans h)
    · exact h2 (hb.2.1.trans h))⟩
theorem KJ.arr {w w' : World} (k : KJ w w') {g n : Nat} {f : Nat → Int} (h : ArrI w g 3 n f) : ArrI w' g 3 n f := h.block (k.2 g _ _ _ h.heap (.inl rfl))
theorem KJ.own {w w' : World} (k : KJ w w') {base n : Nat} {v : Value} {xs : List Value} (h : w.ownsRow base 23 1 v n xs) : w'.ownsRow base 23 1 v n xs := by
  refine ⟨h.1, ?_⟩
  rcases h.2 with hn | ⟨g, cap, cur, rfl, hb, hg, rest⟩
  · exact .inl hn
  · exact .inr ⟨g, cap, cur, rfl, hb, (k.2 g _ _ _ hg (.inr rfl)).trans hg, rest⟩
/-- a layer's rounds, apart from the list of lines lv -/
structure LyI (base : Nat) (w : World) (lv u : Value) (rs : List (List Int)) : Prop where
  own : ∃ vals : List Value, w.ownsRow base 23 1 u rs.length vals ∧ ∀ j, j < rs.length → ∃ g, vals[j]? = some (.slice (some ⟨g, 0, none⟩) 3 3) ∧ ArrI w g 3 3 (zat (rat rs j))
  apart : ∀ g, u.ownBlock = some g → lv.ownBlock ≠ some g
theorem LyI.kj {base : Nat} {w w' : World} {lv u : Value} {rs : List (List Int)} (h : LyI base w lv u rs) (k : KJ w w') : LyI base w' lv u rs := by
  obtain ⟨vals, h1, h2⟩ := h.own
  refine ⟨⟨vals, k.own h1, fun j hj => ?_⟩, h.apart⟩
  obtain ⟨g, e1, e2⟩ := h2 j hj
  exact ⟨g, e1, k.arr e2⟩
/-- lines and rounds that are told -/
structure MkG (base : Nat) (w : World) (rv lv : Value) (Rs : List (List (List Int))) (Ls : List (List Int)) : Prop where
  rds : ∃ vals : List Value, w.ownsRow base 22 1 rv Rs.length vals ∧ ∀ j, j < Rs.length → ∃ u, vals[j]? = some u ∧ u.oneCell' = true ∧ LyI base w lv u (rrt Rs j)
  lns : ∃ vals : List Value, w.ownsRow base 23 1 lv Ls.length vals ∧ ∀ j, j < Ls.length → ∃ g, vals[j]? = some (.slice (some ⟨g, 0, none⟩) (rat Ls j).length (rat Ls j).length) ∧ ArrI w g 3 (rat Ls j).length (zat (rat Ls j))
theorem MkG.grown {base c : Nat} {w w' : World} {rv lv : Value} {Rs : List (List (List Int))} {Ls : List (List Int)} (h : MkG base w rv lv Rs Ls) (e : w.grownBy w' (some c)) (hc : c < base) (k : KJ w w') : MkG base w' rv lv Rs Ls := by
  obtain ⟨vals, h1, h2⟩ := h.rds
  obtain ⟨vl, l1, l2⟩ := h.lns
  refine ⟨⟨vals, h1.kept (row := some c) e ?_, fun j hj => ?_⟩, ⟨vl, k.own l1, fun j hj => ?_⟩⟩
  · cases hv : rv.ownBlock with
    | none => simp
    | some g => have := (h1.lt g hv).1; simp; omega
  · obtain ⟨u, e1, e2, e3⟩ := h2 j hj
    exact ⟨u, e1, e2, e3.kj k⟩
  · obtain ⟨g, e1, e2⟩ := l2 j hj
    exact ⟨g, e1, k.arr e2⟩
theorem MkG.below {base : Nat} {w w' : World} {rv lv : Value} {Rs : List (List (List Int))} {Ls : List (List Int)} (h : MkG base w rv lv Rs Ls) (e : Below w.heap.size w w') : MkG base w' rv lv Rs Ls := by
  obtain ⟨vals, h1, h2⟩ := h.rds
  obtain ⟨vl, l1, l2⟩ := h.lns
  refine ⟨⟨vals, own_step h1 e, fun j hj => ?_⟩, ⟨vl, own_step l1 e, fun j hj => ?_⟩⟩
  · obtain ⟨u, e1, e2, e3⟩ := h2 j hj
    exact ⟨u, e1, e2, e3.kj (KJ.below e)⟩
  · obtain ⟨g, e1, e2⟩ := l2 j hj
    exact ⟨g, e1, (KJ.below e).arr e2⟩
theorem rrt_app (Rs : List (List (List Int))) (r : List (List Int)) (j : Nat) : rrt (Rs ++ [r]) j = if j < Rs.length then rrt Rs j else if j = Rs.length then r else [] := by
  unfold rrt
  rw [List.getD_eq_getElem?_getD, List.getD_eq_getElem?_getD]
  by_cases h : j < Rs.length
  · rw [if_pos h, List.getElem?_append_left h]
  · rw [if_neg h, List.getElem?_append_right (by omega)]
    by_cases e : j = Rs.length
    · rw [if_pos e, e, Nat.sub_self]; rfl
    · rw [if_neg e, List.getElem?_eq_none (by simp; omega)]; rfl
/-- a layer's rounds are appended -/
theorem MkG.pushR {base X : Nat} {W : World} {rv lv u : Value} {Rs : List (List (List Int))} {Ls r : List (List Int)} (h : MkG base W rv lv Rs Ls) (hX : W.heap[X]? = some (.cells #[u] 22 (0, 0))) (hu : u.oneCell' = true) (hl : LyI base W lv u r) (hlen : Rs.length ≤ 1000000) (hbase : base ≤ W.heap.size) :
    ∃ v' w5, (Builtin.append_ #[72, 72] 72 #[rv, .slice (some ⟨X, 0, none⟩) 1 1]).run Tryz.prog W = .ok v' w5 ∧ MkG base w5 v' lv (Rs ++ [r]) Ls ∧ W.grownBy w5 rv.ownBlock ∧ KJ W w5 ∧ (∃ a c, v' = .slice a (Rs.length + 1) c) ∧ Below base W w5 := by
  obtain ⟨i0, hi, hz0, hz1, hz2⟩ := info_parts Tryz.infoSl2
  obtain ⟨vals, h1, h2⟩ := h.rds
  obtain ⟨vl, l1, l2⟩ := h.lns
  have hvl : vals.length = Rs.length := by have := h1.1; omega
  obtain ⟨v', w5, hrun, hown2, hgrow, _, _⟩ := run_append_own_at W base 72 72 22 i0 _ 1 24 Tryz.underlying72 hi hz0 hz1 hz2 rfl (by decide) rv _ _ h1 ⟨X, 0, none⟩ 1 1 [u] rfl (by
    intro j t hj
    match j, hj with
    | 0, hj => simp at hj; subst hj; simp [Addr.add, World.cell?, hX]) (by intro t ht; simp at ht; subst ht; exact hu) (by unfold maxLen; omega) (by omega) hbase
  have hk : KJ W w5 := ⟨hgrow.size, fun b cs t f hb ht => hgrow.block b (Array.getElem?_eq_some_iff.1 hb).1 (fun e => by
    obtain ⟨c, f', hg⟩ := owns_typ h1 b e.symm
    rw [hb] at hg
    simp at hg
    rcases ht with h | h
    · rw [h] at hg; exact absurd hg.2.1 (by decide)
    · rw [h] at hg; exact absurd hg.2.1 (by decide))⟩
  refine ⟨v', w5, hrun, ⟨⟨vals ++ [u], by rw [List.length_append]; exact hown2, fun j hj => ?_⟩, ⟨vl, hk.own l1, fun j hj => ?_⟩⟩, hgrow, hk, ?_, (Below.refl base W).grown hgrow hbase (fun k hk => (h1.lt k hk).1)⟩
  · rw [List.length_append] at hj
    rw [rrt_app]
    by_cases hjr : j < Rs.length
    · rw [if_pos hjr, List.getElem?_append_left (by omega)]
      obtain ⟨u', e1, e2, e3⟩ := h2 j hjr
      exact ⟨u', e1, e2, e3.kj hk⟩
    · obtain e : j = Rs.length := by simp at hj; omega
      rw [if_neg hjr, if_pos e, List.getElem?_append_right (by omega), hvl, e, Nat.sub_self]
      exact ⟨u, rfl, hu, hl.kj hk⟩
  · obtain ⟨g, e1, e2⟩ := l2 j hj
    exact ⟨g, e1, hk.arr e2⟩
  · rcases hown2.2 with ⟨e, h0⟩ | ⟨g, cap, cur, e, _⟩
    · simp at h0
    · exact ⟨_, _, e⟩
/-- a line is appended -/
theorem MkG.pushL {base X g : Nat} {W : World} {rv lv : Value} {Rs : List (List (List Int))} {Ls : List (List Int)} {l : List Int} (h : MkG base W rv lv Rs Ls) (hX : W.heap[X]? = some (.cells #[.slice (some ⟨g, 0, none⟩) l.length l.length] 23 (0, 0))) (hA : ArrI W g 3 l.length (zat l)) (hlen : Ls.length ≤ 1000000) (hbase : base ≤ W.heap.size) :
    ∃ v' w5, (Builtin.append_ #[22, 22] 22 #[lv, .slice (some ⟨X, 0, none⟩) 1 1]).run Tryz.prog W = .ok v' w5 ∧ MkG base w5 rv v' Rs (Ls ++ [l]) ∧ W.grownBy w5 lv.ownBlock ∧ (∀ (b : Nat) (cs : Array Value) (f : Nat × Nat), W.heap[b]? = some (.cells cs 3 f) → w5.heap[b]? = W.heap[b]?) ∧ (∃ a c, v' = .slice a (Ls.length + 1) c) ∧ Below base W w5 := by
  obtain ⟨i0, hi, hz0, hz1, hz2⟩ := info_parts Tryz.infoSl
  obtain ⟨vals, h1, h2⟩ := h.rds
  obtain ⟨vl, l1, l2⟩ := h.lns
  have hvl : vl.length = Ls.length := by have := l1.1; omega
  obtain ⟨v', w5, hrun, hown2, hgrow, _, hat⟩ := run_append_own_at W base 22 22 23 i0 _ 1 24 Tryz.underlying22 hi hz0 hz1 hz2 rfl (by decide) lv _ _ l1 ⟨X, 0, none⟩ 1 1 [.slice (some ⟨g, 0, none⟩) l.length l.length] rfl (by
    intro j t hj
    match j, hj with
    | 0, hj => simp at hj; subst hj; simp [Addr.add, World.cell?, hX]) (by intro t ht; simp at ht; subst ht; rfl) (by unfold maxLen; omega) (by omega) hbase
  have hI : ∀ (b n : Nat) (f : Nat → Int), ArrI W b 3 n f → ArrI w5 b 3 n f := fun b n f ha => ha.block (hgrow.block b ha.lt (fun e => by
    obtain ⟨c, f', hg⟩ := owns_typ l1 b e.symm
    rw [ha.heap] at hg
    simp at hg))
  have hL : ∀ (u : Value) (rs : List (List Int)), LyI base W lv u rs → LyI base w5 v' u rs := fun u rs hu => by
    obtain ⟨vs, g1, g2⟩ := hu.own
    refine ⟨⟨vs, g1.kept hgrow ?_, fun j hj => ?_⟩, fun k hk e => ?_⟩
    · cases hv : u.ownBlock with
      | none => simp
      | some k => exact Or.inr (fun e => hu.apart k hv e.symm)
    · obtain ⟨k, e1, e2⟩ := g2 j hj
      exact ⟨k, e1, hI _ _ _ e2⟩
    · rcases hat with h5 | h5
      · rw [h5] at e; exact hu.apart k hk e
      · rw [h5] at e
        injection e with e
        have := (g1.lt k hk).2
        omega
  refine ⟨v', w5, hrun, ⟨⟨vals, h1.kept hgrow ?_, fun j hj => ?_⟩, ⟨vl ++ [.slice (some ⟨g, 0, none⟩) l.length l.length], by rw [List.length_append]; exact hown2, fun j hj => ?_⟩⟩, hgrow, fun b cs f hb => hgrow.block b (Array.getElem?_eq_some_iff.1 hb).1 (fun e => by
    obtain ⟨c, f', hg⟩ := owns_typ l1 b e.symm
    rw [hb] at hg
    simp at hg), ?_, (Below.refl base W).grown hgrow hbase (fun k hk => (l1.lt k hk).1)⟩
  · cases hv : rv.ownBlock with
    | none => simp
    | some k =>
      refine Or.inr (fun e => ?_)
      obtain ⟨c, f, hg⟩ := owns_typ h1 k hv
      obtain ⟨c', f', hg'⟩ := owns_typ l1 k e.symm
      rw [hg] at hg'
      simp at hg'
  · obtain ⟨u, e1, e2, e3⟩ := h2 j hj
    exact ⟨u, e1, e2, hL u _ e3⟩
  · rw [List.length_append] at hj
    rw [rat_app Ls [l] j]
    by_cases hjr : j < Ls.length
    · rw [if_pos hjr, List.getElem?_append_left (by omega)]
      obtain ⟨k, e1, e2⟩ := l2 j hjr
      exact ⟨k, e1, hI _ _ _ e2⟩
    · rw [if_neg hjr, List.getElem?_append_right (by omega), hvl]
      obtain e : j = Ls.length := by simp at hj; omega
      subst e
      rw [Nat.sub_self]
      exact ⟨g, rfl, hI _ _ _ hA⟩
  · rcases hown2.2 with ⟨e, h0⟩ | ⟨g, cap, cur, e, _⟩
    · simp at h0
    · exact ⟨_, _, e⟩
/-- what shown told is a layer's rounds -/
theorem ShI.lyI {base B : Nat} {w : World} {rv dv lv : Value} {rs : List (List Int)} {xs : List Int} (h : ShI B w rv dv rs xs) (hb : base ≤ B) (hl : ∀ g, lv.ownBlock = some g → g < B) : LyI base w lv rv rs := by
  obtain ⟨vals, h1, h2⟩ := h.rds
  refine ⟨⟨vals, h1.mono hb, fun j hj => ?_⟩, fun g hg e => ?_⟩
  · obtain ⟨g, e1, _, e3, _⟩ := h2 j hj
    exact ⟨g, e1, e3⟩
  · have := (h1.lt g hg).1
    have := hl g e
    omega

theorem ShI.one {B : Nat} {w : World} {rv dv : Value} {rs : List (List Int)} {xs : List Int} (h : ShI B w rv dv rs xs) : rv.oneCell' = true := by
  obtain ⟨vals, h1, _⟩ := h.rds
  rcases h1.2 with ⟨rfl, _⟩ | ⟨g, cap, cur, rfl, _⟩ <;> rfl
theorem ShI.slc {B : Nat} {w : World} {rv dv : Value} {rs : List (List Int)} {xs : List Int} (h : ShI B w rv dv rs xs) : ∃ a n c, rv = .slice a n c := by
  obtain ⟨vals, h1, _⟩ := h.rds
  rcases h1.2 with ⟨rfl, _⟩ | ⟨g, cap, cur, rfl, _⟩
  · exact ⟨_, _, _, rfl⟩
  · exact ⟨_, _, _, rfl⟩
/-- what turns when both are appended -/
structure MkT (base : Nat) (W w11 : World) (rv lv : Value) (Rs : List (List (List Int))) (Ls : List (List Int)) : Prop where
  mkg : MkG base w11 rv lv Rs Ls
  ints : ∀ (b : Nat) (cs : Array Value) (f : Nat × Nat), W.heap[b]? = some (.cells cs 3 f) → w11.heap[b]? = W.heap[b]?
  below : Below base W w11
/-- rounds and a line are appended, both laid ahead -/
theorem MkG.both {base XR XL g : Nat} {W : World} {rv lv u : Value} {Rs : List (List (List Int))} {Ls r : List (List Int)} {l : List Int} (h : MkG base W rv lv Rs Ls) (hXR : W.heap[XR]? = some (.cells #[u] 22 (0, 0))) (hXL : W.heap[XL]? = some (.cells #[.slice (some ⟨g, 0, none⟩) l.length l.length] 23 (0, 0))) (hu : u.oneCell' = true) (hl : LyI base W lv u r) (hA : ArrI W g 3 l.length (zat l)) (n1 : Rs.length ≤ 1000000) (n2 : Ls.length ≤ 1000000) (hbase : base ≤ W.heap.size) :
    ∃ a c w10 a' c' w11, (Builtin.append_ #[72, 72] 72 #[rv, .slice (some ⟨XR, 0, none⟩) 1 1]).run Tryz.prog W = .ok (.slice a (Rs.length + 1) c) w10 ∧ (Builtin.append_ #[22, 22] 22 #[lv, .slice (some ⟨XL, 0, none⟩) 1 1]).run Tryz.prog w10 = .ok (.slice a' (Ls.length + 1) c') w11 ∧ Below base W w10 ∧ MkT base W w11 (.slice a (Rs.length + 1) c) (.slice a' (Ls.length + 1) c') (Rs ++ [r]) (Ls ++ [l]) := by
  obtain ⟨v', w10, hrun, hM, _, hk, ⟨a, c, rfl⟩, hb⟩ := h.pushR hXR hu hl n1 hbase
  obtain ⟨v2, w11, hrun2, hM2, _, hi, ⟨a', c', rfl⟩, hb2⟩ := hM.pushL (X := XL) ((hk.2 XL _ _ _ hXL (.inr rfl)).trans hXL) (hk.arr hA) n2 (by have := hb.size; omega)
  refine ⟨a, c, w10, a', c', w11, hrun, hrun2, hb, hM2, fun b cs f hb' => ?_, hb.trans hb2⟩
  have e1 := hk.2 b cs _ f hb' (.inl rfl)
  exact (hi b cs f (e1.trans hb')).trans e1
/-- the rounds are appended ahead of the line's laying -/
theorem MkG.after {base XR g : Nat} {W : World} {rv lv u : Value} {Rs : List (List (List Int))} {Ls r : List (List Int)} {l : List Int} (h : MkG base W rv lv Rs Ls) (hXR : W.heap[XR]? = some (.cells #[u] 22 (0, 0))) (hu : u.oneCell' = true) (hl : LyI base W lv u r) (hA : ArrI W g 3 l.length (zat l)) (n1 : Rs.length ≤ 1000000) (n2 : Ls.length ≤ 1000000) (hbase : base ≤ W.heap.size) :
    ∃ a c w10 a' c' w11, (Builtin.append_ #[72, 72] 72 #[rv, .slice (some ⟨XR, 0, none⟩) 1 1]).run Tryz.prog W = .ok (.slice a (Rs.length + 1) c) w10 ∧ (Builtin.append_ #[22, 22] 22 #[lv, .slice (some ⟨w10.heap.size, 0, none⟩) 1 1]).run Tryz.prog (w10.alloc (.cells #[.slice (some ⟨g, 0, none⟩) l.length l.length] 23)) = .ok (.slice a' (Ls.length + 1) c') w11 ∧ Below base W w10 ∧ MkT base W w11 (.slice a (Rs.length + 1) c) (.slice a' (Ls.length + 1) c') (Rs ++ [r]) (Ls ++ [l]) := by
  obtain ⟨v', w10, hrun, hM, _, hk, ⟨a, c, rfl⟩, hb⟩ := h.pushR hXR hu hl n1 hbase
  have hba : Below w10.heap.size w10 (w10.alloc (.cells #[.slice (some ⟨g, 0, none⟩) l.length l.length] 23)) := (Below.refl _ _).alloc (Nat.le_refl _) _
  have hbs : base ≤ w10.heap.size := by have := hb.size; omega
  obtain ⟨v2, w11, hrun2, hM2, _, hi, ⟨a', c', rfl⟩, hb2⟩ := (hM.below hba).pushL (X := w10.heap.size) (heap_alloc_new w10 _) ((KJ.below hba).arr (hk.arr hA)) n2 (by have := hba.size; omega)
  refine ⟨a, c, w10, a', c', w11, hrun, hrun2, hb, hM2, fun b cs f hb' => ?_, (hb.trans (hba.mono hbs)).trans hb2⟩
  have e1 := hk.2 b cs _ f hb' (.inl rfl)
  have e2 := (KJ.below hba).2 b cs _ f (e1.trans hb') (.inl rfl)
  exact (hi b cs f (e2.trans (e1.trans hb'))).trans (e2.trans e1)

end Go.Proofs.YtpgnabmkfkcogaaGreatDoor

namespace Go.Proofs.YtpgnabmkfkcogaaGreatDoor
open Go.RowKit

/-- lists of lists of lists that can be read -/
structure LstRR (n0 : Nat) (w : World) (a : Option Addr) (cap : Nat) (Rs : List (List (List Int))) : Prop where
  row : ∀ k, k < Rs.length → ∃ b o ak ck, a = some ⟨b, o, none⟩ ∧ b < n0 ∧ w.cell? ⟨b, o + k, none⟩ = some (.slice ak (rrt Rs k).length ck) ∧ LstR n0 w ak ck (rrt Rs k)
  room : Rs.length ≤ cap
  nil : a = none → cap = 0
theorem LstRR.below {n0 : Nat} {A B : World} {a : Option Addr} {cap : Nat} {Rs : List (List (List Int))} (r : LstRR n0 A a cap Rs) (h : Below n0 A B) : LstRR n0 B a cap Rs :=
  ⟨fun k hk => by
    obtain ⟨b, o, ak, ck, e1, e2, e3, e4⟩ := r.row k hk
    exact ⟨b, o, ak, ck, e1, e2, (h.cell (p := ⟨b, o + k, none⟩) e2).trans e3, e4.below h⟩, r.room, r.nil⟩
/-- how great what is told may be -/
structure LayB (Rs : List (List (List Int))) (Ls : List (List Int)) : Prop where
  r0 : Rs.length ≤ 281474976710656
  r1 : ∀ k, k < Rs.length → (rrt Rs k).length ≤ 5864062014634 ∧ ∀ j, j < (rrt Rs k).length → (rat (rrt Rs k) j).length ≤ 17592186043904 ∧ Fits (rat (rrt Rs k) j)
  l0 : Ls.length ≤ 5864062014634
  l1 : ∀ k, k < Ls.length → (rat Ls k).length ≤ 17592186043904 ∧ Fits (rat Ls k)
theorem LstG.back {n0 : Nat} {A B : World} {a : Option Addr} {cap : Nat} {gs : List GatZ} (r : LstG n0 B a cap gs) (h : Below n0 A B) : LstG n0 A a cap gs :=
  ⟨fun k hk => by
    obtain ⟨b, o, e1, e2, g1, g2, g3⟩ := r.row k hk
    exact ⟨b, o, e1, e2, (h.cell (p := ⟨b, o + k * 3, none⟩) e2).symm.trans g1, (h.cell (p := ⟨b, o + k * 3 + 1, none⟩) e2).symm.trans g2, (h.cell (p := ⟨b, o + k * 3 + 2, none⟩) e2).symm.trans g3⟩, r.room, r.nil⟩
theorem drs_fits {q : Nat} (h3 : 3 ≤ q) (h4 : q ≤ 2147483647) (n : Nat) {D : List Int} (h : Dig D) (k : Nat) : Fits (drs q n k D) := fun j hj => by
  unfold drs at hj ⊢
  rw [ls_len] at hj
  rw [ls_at _ _ _ hj]
  exact (dig_drw h3 h4 n h (j + 1)).2.all 0
structure GsI (wide : Int) (lys : List (List GatZ)) (i : Nat) (s : GSt) : Prop where
  dig : Dig s.D
  len : s.z.length = bnn wide lys (lys.length - i)
  fit : Fits s.z
  c : i64B s.c
theorem gst_ok {q : Nat} (h3 : 3 ≤ q) (h4 : q ≤ 2147483647) (n : Nat) (wide : Int) (lys : List (List GatZ)) (outs : List Int) (Rs : List (List (List Int))) (Ls : List (List Int)) : ∀ i, i ≤ lys.length → GsI wide lys i (gst q n wide lys Rs Ls (gs0 q n wide lys outs) i)
  | 0, _ => by
    have hb := emod_bounds (Sum.ext (zat outs) (zat (drs q n (bnn wide lys lys.length) (digl q n (2 :: (lbz q wide lys lys.length ++ outs))))) (bnn wide lys lys.length)) q h3
    exact ⟨dig_drw h3 h4 n (dig_digl h3 h4 _ _) _, drs_len' _ _ _ _, drs_fits h3 h4 n (dig_digl h3 h4 _ _) _, ⟨by show _ ≤ _ % _; omega, by show _ % _ ≤ _; omega⟩⟩
  | i + 1, h => by
    refine ⟨dig_gan h3 h4 _ _ _, ?_, onl_fits h3 h4 _ _ _, atz_fits h3 h4 _ _⟩
    show (onl _ _ _ _).length = _
    rw [onl_len, List.length_take, gxs_len, show lys.length - (i + 1) = lys.length - 1 - i from by omega]
    omega
set_option maxRecDepth 100000 in
set_option maxHeartbeats 2000000 in
theorem levelOf_at (n0 b i cL : Nat) (wide : Int) (aL : Option Addr) (lys : List (List GatZ)) (w : World) (hS : SzC wide lys) (hi : i < lys.length) (hl : LstGG n0 w aL cL lys) (hn0 : n0 ≤ w.heap.size) (hT : TabAt 2 Lib.deBruijn64tab w) :
    Calls Tryz.prog 82 #[.pointer (some ⟨b, 0, none⟩), .agg #[.int .i64 wide, .slice aL lys.length cL], .int .i64 (i : Int)] w fun e w' => ∃ ag cg, e = .returned (.agg #[.pointer (some ⟨b, 0, none⟩), .slice ag (lyt lys i).length cg, .int .i64 (bnn wide lys i : Int)]) ∧ LstG n0 w ag cg (lyt lys i) ∧ Below w.heap.size w w' := by
  have HRL : Hid (((w.alloc (.cells #[.int .i64 wide, .slice aL lys.length cL] 69)).alloc (.cells #[.pointer none, .slice none 0 0, .int .i64 0] 149)).heap[w.heap.size + 1]? = some (.cells #[.pointer none, .slice none 0 0, .int .i64 0] 149 (0, 0))) := by
    have := heap_alloc_new (w.alloc (.cells #[.int .i64 wide, .slice aL lys.length cL] 69)) (.cells #[.pointer none, .slice none 0 0, .int .i64 0] 149)
    rw [show (w.alloc (.cells #[.int .i64 wide, .slice aL lys.length cL] 69)).heap.size = w.heap.size + 1 from by simp] at this
    exact this
  have HB1 : Hid (Below w.heap.size w ((w.alloc (.cells #[.int .i64 wide, .slice aL lys.length cL] 69)).alloc (.cells #[.pointer none, .slice none 0 0, .int .i64 0] 149))) := ((Below.refl _ _).alloc (Nat.le_refl _) _).alloc (by simp) _
  obtain ⟨bi, oi, ag, cg, ha, hbi, hci, hgi⟩ := hl.row i hi
  have HGI := hid hgi
  subst ha
  obtain ⟨q0, q1⟩ := hS.bn (i := i) (by omega)
  have hlen := hS.2.1.2
  have hin : (i : Int) < (lys.length : Int) := by omega
  have hbi3 : bi < w.heap.size := by omega
  have hbi2 : bi < w.heap.size + 1 := by omega
  clear hn0
  by_cases e0 : i = 0
  · have q2 : wide = (bnn wide lys i : Int) := by rw [← q0]; unfold bnz; rw [if_pos e0]
    rw [← q2]
    have hi0 : ¬ (0 : Int) < (i : Int) := by omega
    generalize (lyt lys i).length = N at *
    generalize lys.length = n at *
    clear hS hl hgi q0 q1 q2 e0 hT
    go_enter Tryz.func82, Tryz.ntmps82
    go_wp2_with (refine wpList_store_row rfl 149 _ _ rfl (w.heap.size + 1) #[.pointer (some ⟨b, 0, none⟩), .slice ag N cg, .int .i64 wide] rfl rfl _ _ HRL.out (by kernel_rfl) rfl (by simp [Value.oneCell']) ?_)
    refine bodyPost_ret (results_cell_row rfl _ _ (w.heap.size + 1) 149 #[.pointer (some ⟨b, 0, none⟩), .slice ag N cg, .int .i64 wide] (0, 0) _ rfl (setRow_heap _ _ _ _ _ _ HRL.out) Tryz.underlying149 rfl (by kernel_rfl)) rfl ?_
    exact ⟨ag, cg, rfl, HGI.out, below_setRow HB1.out (by omega) _⟩
  · obtain ⟨j, hj⟩ : ∃ j, j = i - 1 := ⟨_, rfl⟩
    obtain ⟨bj, oj, aj, cj, ha, hbj, hcj, _⟩ := hl.row j (by omega)
    injection ha with ha
    injection ha with ha1 ha2 _
    subst ha1
    subst ha2
    have hbl : bnn wide lys i ≤ 6 := q1
    obtain ⟨o1, o2⟩ := hS.own (i := j) (by omega)
    rw [show j + 1 = i from by omega] at o1 o2
    have HV := hid (gvars_any (lyt lys j).length (bnn wide lys i) _ hbl o1 (tabu_below hT HB1.out))
    have hi0 : (0 : Int) < (i : Int) := by omega
    have hij : (i : Int) - 1 = (j : Int) := by omega
    have hjn : (j : Int) < (lys.length : Int) := by omega
    generalize bnn wide lys i = B at *
    generalize (lyt lys i).length = N at *
    generalize (lyt lys j).length = M at *
    generalize lys.length = n at *
    clear hS hl hgi q0 q1 e0 hT hbl o1 o2 hj
    go_enter Tryz.func82, Tryz.ntmps82
    go_wp2_with fail
    refine HV.out.mono ?_
    rintro e w1 ⟨rfl, hw⟩
    have hw1 := hw.symm
    subst hw1
    clear hw HV
    go_wp2_with (refine wpList_store_row rfl 149 _ _ rfl (w.heap.size + 1) #[.pointer (some ⟨b, 0, none⟩), .slice ag N cg, .int .i64 (B : Int)] rfl rfl _ _ HRL.out (by kernel_rfl) rfl (by simp [Value.oneCell']) ?_)
    refine bodyPost_ret (results_cell_row rfl _ _ (w.heap.size + 1) 149 #[.pointer (some ⟨b, 0, none⟩), .slice ag N cg, .int .i64 (B : Int)] (0, 0) _ rfl (setRow_heap _ _ _ _ _ _ HRL.out) Tryz.underlying149 rfl (by kernel_rfl)) rfl ?_
    exact ⟨ag, cg, rfl, HGI.out, below_setRow HB1.out (by omega) _⟩
theorem outs_len {wide : Int} {lys : List (List GatZ)} {outs : List Int} (hS : SzC wide lys) (h : outs.length = (lyt lys (lys.length - 1)).length) : outs.length = 2 ^ bnn wide lys lys.length := by
  have h1 := hS.2.1.1
  rw [h, (hS.own (show lys.length - 1 < lys.length by omega)).1, show lys.length - 1 + 1 = lys.length from by omega]

end Go.Proofs.YtpgnabmkfkcogaaGreatDoor
