/- What attestref13.Make has told so far, in memory: rows of one's own, each of one's own. Package gates: Check. -/
import Derived.Test.YtpgnabmkfkcogaaGreatDoorGmAV
import Derived.Test.YtpgnabmkfkcogaaGreatDoorGmAM
import Derived.Test.YtpgnabmkfkcogaaGreatDoorGuE
import Derived.Test.YtpgnabmkfkcogaaGreatDoorGmAK
namespace Go.Proofs.YtpgnabmkfkcogaaGreatDoor
open Go.RowKit

/-- a list of numbers of one's own -/
def NuE (base : Nat) (w : World) (u : Value) (l : List Int) : Prop := w.ownsRow base 3 1 u l.length (l.map (Value.int .i64))
theorem NuE.one {base : Nat} {w : World} {u : Value} {l : List Int} (h : NuE base w u l) : u.oneCell' = true := by
  rcases h.2 with ⟨rfl, _⟩ | ⟨g, cap, cur, rfl, _⟩ <;> rfl
theorem NuE.kj {base : Nat} {w w' : World} {u : Value} {l : List Int} (h : NuE base w u l) (k : KJ w w') : NuE base w' u l := by
  refine ⟨h.1, ?_⟩
  rcases h.2 with hn | ⟨g, cap, cur, rfl, hb, hg, rest⟩
  · exact .inl hn
  · exact .inr ⟨g, cap, cur, rfl, hb, (k.2 g _ _ _ hg (.inl rfl)).trans hg, rest⟩
theorem NuE.mono {base base' : Nat} {w : World} {u : Value} {l : List Int} (h : NuE base w u l) (e : base' ≤ base) : NuE base' w u l := World.ownsRow.mono h e
theorem NuE.slr {base : Nat} {w : World} {u : Value} {l : List Int} (h : NuE base w u l) : SlR w l u := slr_of_owns h
theorem NuE.lst {base : Nat} {w : World} {u : Value} {l : List Int} (h : NuE base w u l) : ∃ a c, u = .slice a l.length c ∧ Lst w.heap.size w a c l := h.slr.lst
theorem NuE.typ {base : Nat} {w : World} {u : Value} {l : List Int} (h : NuE base w u l) : ∀ k, u.ownBlock = some k → ∃ c f, w.heap[k]? = some (.cells c 3 f) := owns_typ h
theorem NuE.lt {base : Nat} {w : World} {u : Value} {l : List Int} (h : NuE base w u l) : ∀ k, u.ownBlock = some k → base ≤ k ∧ k < w.heap.size := fun k hk => World.ownsRow.lt h k hk
/-- the rounds of a layer, and what was drawn -/
structure RsI (base : Nat) (w : World) (rv av : Value) (rs : List (List Int)) (xs : List Int) : Prop where
  rds : ∃ vals : List Value, w.ownsRow base 23 1 rv rs.length vals ∧ ∀ j, j < rs.length → ∃ u, vals[j]? = some u ∧ NuE base w u (rat rs j) ∧ ∀ g, u.ownBlock = some g → av.ownBlock ≠ some g
  drw : NuE base w av xs
theorem RsI.nil (base : Nat) (w : World) : RsI base w (.slice none 0 0) (.slice none 0 0) [] [] := ⟨⟨[], World.ownsRow_nil _ _ _ _, fun j hj => by simp at hj⟩, World.ownsRow_nil _ _ _ _⟩
theorem RsI.grown {base c : Nat} {w w' : World} {rv av : Value} {rs : List (List Int)} {xs : List Int} (h : RsI base w rv av rs xs) (e : w.grownBy w' (some c)) (hc : c < base) : RsI base w' rv av rs xs := by
  obtain ⟨vals, h1, h2⟩ := h.rds
  refine ⟨⟨vals, h1.kept (row := some c) e ?_, fun j hj => ?_⟩, own_gb h.drw e hc⟩
  · cases hv : rv.ownBlock with
    | none => simp
    | some g => have := (h1.lt g hv).1; simp; omega
  · obtain ⟨u, e1, e2, e3⟩ := h2 j hj
    exact ⟨u, e1, own_gb e2 e hc, e3⟩
theorem RsI.below {base : Nat} {w w' : World} {rv av : Value} {rs : List (List Int)} {xs : List Int} (h : RsI base w rv av rs xs) (e : Below w.heap.size w w') : RsI base w' rv av rs xs := by
  obtain ⟨vals, h1, h2⟩ := h.rds
  refine ⟨⟨vals, own_step h1 e, fun j hj => ?_⟩, own_step h.drw e⟩
  obtain ⟨u, e1, e2, e3⟩ := h2 j hj
  exact ⟨u, e1, own_step e2 e, e3⟩
theorem RsI.slc {base : Nat} {w : World} {rv av : Value} {rs : List (List Int)} {xs : List Int} (h : RsI base w rv av rs xs) : ∃ a n c, rv = .slice a n c := by
  obtain ⟨vals, h1, _⟩ := h.rds
  rcases h1.2 with ⟨rfl, _⟩ | ⟨g, cap, cur, rfl, _⟩
  · exact ⟨_, _, _, rfl⟩
  · exact ⟨_, _, _, rfl⟩
/-- a round is told: a list of its own behind all that was there (b0 on) -/
theorem RsI.push {base b0 X : Nat} {W : World} {rv av u : Value} {rs : List (List Int)} {r xs : List Int} (h : RsI base W rv av rs xs) (hX : W.heap[X]? = some (.cells #[u] 23 (0, 0))) (hU : NuE b0 W u r) (hb0 : base ≤ b0) (hav : ∀ g, av.ownBlock = some g → g < b0) (hlen : rs.length ≤ 1000000) (hbase : base ≤ W.heap.size) :
    ∃ v' w5, (Builtin.append_ #[22, 22] 22 #[rv, .slice (some ⟨X, 0, none⟩) 1 1]).run Tryz.prog W = .ok v' w5 ∧ RsI base w5 v' av (rs ++ [r]) xs ∧ NuE b0 w5 u r ∧ Below base W w5 ∧ W.grownBy w5 rv.ownBlock ∧ (∀ (b : Nat) (cs : Array Value) (f : Nat × Nat), W.heap[b]? = some (.cells cs 3 f) → w5.heap[b]? = W.heap[b]?) := by
  obtain ⟨i0, hi, hz0, hz1, hz2⟩ := info_parts Tryz.infoSl
  obtain ⟨vals, h1, h2⟩ := h.rds
  have hvl : vals.length = rs.length := by have := h1.1; omega
  obtain ⟨v', w5, hrun, hown2, hgrow, _, _⟩ := run_append_own_at W base 22 22 23 i0 _ 1 24 Tryz.underlying22 hi hz0 hz1 hz2 rfl (by decide) rv _ _ h1 ⟨X, 0, none⟩ 1 1 [u] rfl (by
    intro j t hj
    match j, hj with
    | 0, hj => simp at hj; subst hj; simp [Addr.add, World.cell?, hX]) (by intro t ht; simp at ht; subst ht; exact hU.one) (by unfold maxLen; omega) (by omega) hbase
  have hE : ∀ (b : Nat) (x : Value) (l : List Int), NuE b W x l → NuE b w5 x l := fun b x l hx => World.ownsRow.kept hx hgrow (by
    cases hv : x.ownBlock with
    | none => simp
    | some g =>
      refine Or.inr (fun e => ?_)
      obtain ⟨c, f, hg⟩ := hx.typ g hv
      obtain ⟨c', f', hg'⟩ := owns_typ h1 g e.symm
      rw [hg] at hg'
      simp at hg')
  refine ⟨v', w5, hrun, ⟨⟨vals ++ [u], by rw [List.length_append]; exact hown2, fun j hj => ?_⟩, hE _ _ _ h.drw⟩, hE _ _ _ hU, (Below.refl base W).grown hgrow hbase (fun k hk => (h1.lt k hk).1), hgrow, fun b cs f hb => hgrow.block b (Array.getElem?_eq_some_iff.1 hb).1 (fun e => by
    obtain ⟨c, f', hg⟩ := owns_typ h1 b e.symm
    rw [hb] at hg
    simp at hg)⟩
  rw [List.length_append] at hj
  rw [rat_app rs [r] j]
  by_cases hjr : j < rs.length
  · rw [if_pos hjr, List.getElem?_append_left (by omega)]
    obtain ⟨x, e1, e2, e3⟩ := h2 j hjr
    exact ⟨x, e1, hE _ _ _ e2, e3⟩
  · rw [if_neg hjr, List.getElem?_append_right (by omega), hvl]
    obtain e : j = rs.length := by simp at hj; omega
    subst e
    rw [Nat.sub_self]
    refine ⟨u, rfl, (hE _ _ _ hU).mono hb0, fun g hg e => ?_⟩
    have := (hU.lt g hg).1
    have := hav g e
    omega
/-- a number is drawn -/
theorem RsI.draw {base g : Nat} {W : World} {rv av : Value} {rs : List (List Int)} {xs : List Int} {y : Int} (h : RsI base W rv av rs xs) (hc : W.cell? ⟨g, 0, none⟩ = some (.int .i64 y)) (hlen : xs.length ≤ 1000000) (hbase : base ≤ W.heap.size) :
    ∃ v' w5, (Builtin.append_ #[23, 23] 23 #[av, .slice (some ⟨g, 0, none⟩) 1 1]).run Tryz.prog W = .ok v' w5 ∧ RsI base w5 rv v' rs (xs ++ [y]) ∧ Below base W w5 ∧ W.grownBy w5 av.ownBlock := by
  obtain ⟨i0, hi0, hz0, hz1, hz2⟩ := info_parts Tryz.infoInt
  obtain ⟨v', w5, hrun, hown2, hgrow, _, hat⟩ := run_append_own_at W base 23 23 3 i0 _ 1 8 Tryz.underlying23 hi0 hz0 hz1 hz2 rfl (by decide) av _ _ h.drw ⟨g, 0, none⟩ 1 1 [.int .i64 y] rfl (by
    intro j u hj
    match j, hj with
    | 0, hj => simp at hj; subst hj; exact hc
    | j + 1, hj => simp at hj) (by intro u hu; simp at hu; subst hu; rfl) (by unfold maxLen; omega) (by omega) hbase
  obtain ⟨vals, h1, h2⟩ := h.rds
  refine ⟨v', w5, hrun, ⟨⟨vals, h1.kept hgrow ?_, fun j hj => ?_⟩, by unfold NuE; rw [List.length_append, List.map_append]; exact hown2⟩, (Below.refl base W).grown hgrow hbase (fun k hk => (h.drw.lt k hk).1), hgrow⟩
  · cases hv : rv.ownBlock with
    | none => simp
    | some k =>
      refine Or.inr (fun e => ?_)
      obtain ⟨c, f, hg⟩ := owns_typ h1 k hv
      obtain ⟨c', f', hg'⟩ := owns_typ h.drw k e.symm
      rw [hg] at hg'
      simp at hg'
  · obtain ⟨u, e1, e2, e3⟩ := h2 j hj
    refine ⟨u, e1, World.ownsRow.kept e2 hgrow ?_, fun k hk e => ?_⟩
    · cases hv : u.ownBlock with
      | none => simp
      | some k => exact Or.inr (fun e => e3 k hv e.symm)
    · rcases hat with h5 | h5
      · rw [h5] at e; exact e3 k hk e
      · rw [h5] at e
        injection e with e
        have := (e2.lt k hk).2
        omega
/-- a layer's rounds, apart from the list of lines lv -/
structure LyR (base : Nat) (w : World) (lv u : Value) (rs : List (List Int)) : Prop where
  own : ∃ vals : List Value, w.ownsRow base 23 1 u rs.length vals ∧ ∀ j, j < rs.length → ∃ x, vals[j]? = some x ∧ NuE base w x (rat rs j)
  apart : ∀ g, u.ownBlock = some g → lv.ownBlock ≠ some g
theorem RsI.lyR {base B : Nat} {w : World} {rv av lv : Value} {rs : List (List Int)} {xs : List Int} (h : RsI B w rv av rs xs) (hb : base ≤ B) (hl : ∀ g, lv.ownBlock = some g → g < B) : LyR base w lv rv rs := by
  obtain ⟨vals, h1, h2⟩ := h.rds
  refine ⟨⟨vals, h1.mono hb, fun j hj => ?_⟩, fun g hg e => ?_⟩
  · obtain ⟨x, e1, e2, _⟩ := h2 j hj
    exact ⟨x, e1, e2.mono hb⟩
  · have := (h1.lt g hg).1
    have := hl g e
    omega
theorem LyR.kj {base : Nat} {w w' : World} {lv u : Value} {rs : List (List Int)} (h : LyR base w lv u rs) (k : KJ w w') : LyR base w' lv u rs := by
  obtain ⟨vals, h1, h2⟩ := h.own
  refine ⟨⟨vals, k.own h1, fun j hj => ?_⟩, h.apart⟩
  obtain ⟨x, e1, e2⟩ := h2 j hj
  exact ⟨x, e1, e2.kj k⟩
theorem LyR.one {base : Nat} {w : World} {lv u : Value} {rs : List (List Int)} (h : LyR base w lv u rs) : u.oneCell' = true := by
  obtain ⟨vals, h1, _⟩ := h.own
  rcases h1.2 with ⟨rfl, _⟩ | ⟨g, cap, cur, rfl, _⟩ <;> rfl
/-- lines and rounds that are told -/
structure MkR (base : Nat) (w : World) (rv lv : Value) (Rs : List (List (List Int))) (Ls : List (List Int)) : Prop where
  rds : ∃ vals : List Value, w.ownsRow base 22 1 rv Rs.length vals ∧ ∀ j, j < Rs.length → ∃ u, vals[j]? = some u ∧ LyR base w lv u (rrt Rs j)
  lns : ∃ vals : List Value, w.ownsRow base 23 1 lv Ls.length vals ∧ ∀ j, j < Ls.length → ∃ x, vals[j]? = some x ∧ NuE base w x (rat Ls j)
theorem MkR.nil (base : Nat) (w : World) : MkR base w (.slice none 0 0) (.slice none 0 0) [] [] := ⟨⟨[], World.ownsRow_nil _ _ _ _, fun j hj => by simp at hj⟩, ⟨[], World.ownsRow_nil _ _ _ _, fun j hj => by simp at hj⟩⟩
theorem MkR.grown {base c : Nat} {w w' : World} {rv lv : Value} {Rs : List (List (List Int))} {Ls : List (List Int)} (h : MkR base w rv lv Rs Ls) (e : w.grownBy w' (some c)) (hc : c < base) (k : KJ w w') : MkR base w' rv lv Rs Ls := by
  obtain ⟨vals, h1, h2⟩ := h.rds
  obtain ⟨vl, l1, l2⟩ := h.lns
  refine ⟨⟨vals, h1.kept (row := some c) e ?_, fun j hj => ?_⟩, ⟨vl, k.own l1, fun j hj => ?_⟩⟩
  · cases hv : rv.ownBlock with
    | none => simp
    | some g => have := (h1.lt g hv).1; simp; omega
  · obtain ⟨u, e1, e3⟩ := h2 j hj
    exact ⟨u, e1, e3.kj k⟩
  · obtain ⟨x, e1, e2⟩ := l2 j hj
    exact ⟨x, e1, e2.kj k⟩
theorem MkR.below {base : Nat} {w w' : World} {rv lv : Value} {Rs : List (List (List Int))} {Ls : List (List Int)} (h : MkR base w rv lv Rs Ls) (e : Below w.heap.size w w') : MkR base w' rv lv Rs Ls := by
  obtain ⟨vals, h1, h2⟩ := h.rds
  obtain ⟨vl, l1, l2⟩ := h.lns
  refine ⟨⟨vals, own_step h1 e, fun j hj => ?_⟩, ⟨vl, own_step l1 e, fun j hj => ?_⟩⟩
  · obtain ⟨u, e1, e3⟩ := h2 j hj
    exact ⟨u, e1, e3.kj (KJ.below e)⟩
  · obtain ⟨x, e1, e2⟩ := l2 j hj
    exact ⟨x, e1, e2.kj (KJ.below e)⟩
/-- a layer's rounds are appended -/
theorem MkR.pushR {base X : Nat} {W : World} {rv lv u : Value} {Rs : List (List (List Int))} {Ls r : List (List Int)} (h : MkR base W rv lv Rs Ls) (hX : W.heap[X]? = some (.cells #[u] 22 (0, 0))) (hl : LyR base W lv u r) (hlen : Rs.length ≤ 1000000) (hbase : base ≤ W.heap.size) :
    ∃ v' w5, (Builtin.append_ #[72, 72] 72 #[rv, .slice (some ⟨X, 0, none⟩) 1 1]).run Tryz.prog W = .ok v' w5 ∧ MkR base w5 v' lv (Rs ++ [r]) Ls ∧ KJ W w5 ∧ (∃ a c, v' = .slice a (Rs.length + 1) c) ∧ Below base W w5 ∧ (∀ b, b < W.heap.size → rv.ownBlock ≠ some b → w5.heap[b]? = W.heap[b]?) := by
  obtain ⟨i0, hi, hz0, hz1, hz2⟩ := info_parts Tryz.infoSl2
  obtain ⟨vals, h1, h2⟩ := h.rds
  obtain ⟨vl, l1, l2⟩ := h.lns
  have hvl : vals.length = Rs.length := by have := h1.1; omega
  obtain ⟨v', w5, hrun, hown2, hgrow, _, _⟩ := run_append_own_at W base 72 72 22 i0 _ 1 24 Tryz.underlying72 hi hz0 hz1 hz2 rfl (by decide) rv _ _ h1 ⟨X, 0, none⟩ 1 1 [u] rfl (by
    intro j t hj
    match j, hj with
    | 0, hj => simp at hj; subst hj; simp [Addr.add, World.cell?, hX]) (by intro t ht; simp at ht; subst ht; exact hl.one) (by unfold maxLen; omega) (by omega) hbase
  have hk : KJ W w5 := ⟨hgrow.size, fun b cs t f hb ht => hgrow.block b (Array.getElem?_eq_some_iff.1 hb).1 (fun e => by
    obtain ⟨c, f', hg⟩ := owns_typ h1 b e.symm
    rw [hb] at hg
    simp at hg
    rcases ht with h | h
    · rw [h] at hg; exact absurd hg.2.1 (by decide)
    · rw [h] at hg; exact absurd hg.2.1 (by decide))⟩
  refine ⟨v', w5, hrun, ⟨⟨vals ++ [u], by rw [List.length_append]; exact hown2, fun j hj => ?_⟩, ⟨vl, hk.own l1, fun j hj => ?_⟩⟩, hk, ?_, (Below.refl base W).grown hgrow hbase (fun k hk => (h1.lt k hk).1), fun b hb hn => hgrow.block b hb (fun e => hn e.symm)⟩
  · rw [List.length_append] at hj
    rw [rrt_app]
    by_cases hjr : j < Rs.length
    · rw [if_pos hjr, List.getElem?_append_left (by omega)]
      obtain ⟨u', e1, e3⟩ := h2 j hjr
      exact ⟨u', e1, e3.kj hk⟩
    · obtain e : j = Rs.length := by simp at hj; omega
      rw [if_neg hjr, if_pos e, List.getElem?_append_right (by omega), hvl, e, Nat.sub_self]
      exact ⟨u, rfl, hl.kj hk⟩
  · obtain ⟨x, e1, e2⟩ := l2 j hj
    exact ⟨x, e1, e2.kj hk⟩
  · rcases hown2.2 with ⟨e, h0⟩ | ⟨g, cap, cur, e, _⟩
    · simp at h0
    · exact ⟨_, _, e⟩
/-- a line is appended -/
theorem MkR.pushL {base X : Nat} {W : World} {rv lv u : Value} {Rs : List (List (List Int))} {Ls : List (List Int)} {l : List Int} (h : MkR base W rv lv Rs Ls) (hX : W.heap[X]? = some (.cells #[u] 23 (0, 0))) (hU : NuE base W u l) (hlen : Ls.length ≤ 1000000) (hbase : base ≤ W.heap.size) :
    ∃ v' w5, (Builtin.append_ #[22, 22] 22 #[lv, .slice (some ⟨X, 0, none⟩) 1 1]).run Tryz.prog W = .ok v' w5 ∧ MkR base w5 rv v' Rs (Ls ++ [l]) ∧ (∃ a c, v' = .slice a (Ls.length + 1) c) ∧ Below base W w5 ∧ (∀ b, b < W.heap.size → lv.ownBlock ≠ some b → w5.heap[b]? = W.heap[b]?) ∧ (∀ (b : Nat) (cs : Array Value) (f : Nat × Nat), W.heap[b]? = some (.cells cs 3 f) → w5.heap[b]? = W.heap[b]?) := by
  obtain ⟨i0, hi, hz0, hz1, hz2⟩ := info_parts Tryz.infoSl
  obtain ⟨vals, h1, h2⟩ := h.rds
  obtain ⟨vl, l1, l2⟩ := h.lns
  have hvl : vl.length = Ls.length := by have := l1.1; omega
  obtain ⟨v', w5, hrun, hown2, hgrow, _, hat⟩ := run_append_own_at W base 22 22 23 i0 _ 1 24 Tryz.underlying22 hi hz0 hz1 hz2 rfl (by decide) lv _ _ l1 ⟨X, 0, none⟩ 1 1 [u] rfl (by
    intro j t hj
    match j, hj with
    | 0, hj => simp at hj; subst hj; simp [Addr.add, World.cell?, hX]) (by intro t ht; simp at ht; subst ht; exact hU.one) (by unfold maxLen; omega) (by omega) hbase
  have hE : ∀ (b : Nat) (x : Value) (l : List Int), NuE b W x l → NuE b w5 x l := fun b x l hx => World.ownsRow.kept hx hgrow (by
    cases hv : x.ownBlock with
    | none => simp
    | some g =>
      refine Or.inr (fun e => ?_)
      obtain ⟨c, f, hg⟩ := hx.typ g hv
      obtain ⟨c', f', hg'⟩ := owns_typ l1 g e.symm
      rw [hg] at hg'
      simp at hg')
  have hL : ∀ (u : Value) (rs : List (List Int)), LyR base W lv u rs → LyR base w5 v' u rs := fun u rs hu => by
    obtain ⟨vs, g1, g2⟩ := hu.own
    refine ⟨⟨vs, g1.kept hgrow ?_, fun j hj => ?_⟩, fun k hk e => ?_⟩
    · cases hv : u.ownBlock with
      | none => simp
      | some k => exact Or.inr (fun e => hu.apart k hv e.symm)
    · obtain ⟨x, e1, e2⟩ := g2 j hj
      exact ⟨x, e1, hE _ _ _ e2⟩
    · rcases hat with h5 | h5
      · rw [h5] at e; exact hu.apart k hk e
      · rw [h5] at e
        injection e with e
        have := (g1.lt k hk).2
        omega
  refine ⟨v', w5, hrun, ⟨⟨vals, h1.kept hgrow ?_, fun j hj => ?_⟩, ⟨vl ++ [u], by rw [List.length_append]; exact hown2, fun j hj => ?_⟩⟩, ?_, (Below.refl base W).grown hgrow hbase (fun k hk => (l1.lt k hk).1), fun b hb hn => hgrow.block b hb (fun e => hn e.symm), fun b cs f hb => hgrow.block b (Array.getElem?_eq_some_iff.1 hb).1 (fun e => by
    obtain ⟨c, f', hg⟩ := owns_typ l1 b e.symm
    rw [hb] at hg
    simp at hg)⟩
  · cases hv : rv.ownBlock with
    | none => simp
    | some k =>
      refine Or.inr (fun e => ?_)
      obtain ⟨c, f, hg⟩ := owns_typ h1 k hv
      obtain ⟨c', f', hg'⟩ := owns_typ l1 k e.symm
      rw [hg] at hg'
      simp at hg'
  · obtain ⟨u, e1, e3⟩ := h2 j hj
    exact ⟨u, e1, hL u _ e3⟩
  · rw [List.length_append] at hj
    rw [rat_app Ls [l] j]
    by_cases hjr : j < Ls.length
    · rw [if_pos hjr, List.getElem?_append_left (by omega)]
      obtain ⟨x, e1, e2⟩ := l2 j hjr
      exact ⟨x, e1, hE _ _ _ e2⟩
    · rw [if_neg hjr, List.getElem?_append_right (by omega), hvl]
      obtain e : j = Ls.length := by simp at hj; omega
      subst e
      rw [Nat.sub_self]
      exact ⟨u, rfl, hE _ _ _ hU⟩
  · rcases hown2.2 with ⟨e, h0⟩ | ⟨g, cap, cur, e, _⟩
    · simp at h0
    · exact ⟨_, _, e⟩
theorem owns_lstR {base n : Nat} {w : World} {a : Option Addr} {c : Nat} {vals : List Value} {rs : List (List Int)} (h1 : w.ownsRow base 23 1 (.slice a n c) rs.length vals) (h2 : ∀ j, j < rs.length → ∃ x, vals[j]? = some x ∧ SlR w (rat rs j) x) : LstR w.heap.size w a c rs := by
  obtain ⟨a', c', e, hl⟩ := OwnR.lst (base := base) ⟨vals, h1, h2⟩
  injection e with e1 e2 e3
  subst e1 e3
  exact hl
theorem MkR.lnR {base : Nat} {w : World} {rv : Value} {aS : Option Addr} {n cS : Nat} {Rs : List (List (List Int))} {Ls : List (List Int)} (h : MkR base w rv (.slice aS n cS) Rs Ls) : LstR w.heap.size w aS cS Ls := by
  obtain ⟨vals, h1, h2⟩ := h.lns
  exact owns_lstR h1 (fun j hj => by obtain ⟨x, e1, e2⟩ := h2 j hj; exact ⟨x, e1, e2.slr⟩)
theorem LyR.lst {base : Nat} {w : World} {lv u : Value} {rs : List (List Int)} (h : LyR base w lv u rs) : ∃ a c, u = .slice a rs.length c ∧ LstR w.heap.size w a c rs := by
  obtain ⟨vals, h1, h2⟩ := h.own
  exact OwnR.lst (base := base) ⟨vals, h1, fun j hj => by obtain ⟨x, e1, e2⟩ := h2 j hj; exact ⟨x, e1, e2.slr⟩⟩
theorem MkR.rdX {base : Nat} {w : World} {lv : Value} {aR : Option Addr} {n cR : Nat} {Rs : List (List (List Int))} {Ls : List (List Int)} (h : MkR base w (.slice aR n cR) lv Rs Ls) : (∀ k, k < Rs.length → ∃ b o ak ck, aR = some ⟨b, o, none⟩ ∧ b < w.heap.size ∧ w.cell? ⟨b, o + k, none⟩ = some (.slice ak (rrt Rs k).length ck) ∧ LstR w.heap.size w ak ck (rrt Rs k)) ∧ Rs.length ≤ cR ∧ (aR = none → cR = 0) := by
  obtain ⟨vals, h1, h2⟩ := h.rds
  rcases h1.2 with ⟨e, h0⟩ | ⟨g, cap, cur, e, hb, hg, hn, hm, hs, ht⟩
  · injection e with e1 e2 e3
    subst e1 e2 e3
    exact ⟨fun k hk => by omega, by omega, fun _ => rfl⟩
  · injection e with e1 e2 e3
    subst e1 e2 e3
    refine ⟨fun k hk => ?_, hn, fun e => by cases e⟩
    obtain ⟨u, e3, e4⟩ := h2 k hk
    obtain ⟨a, c, rfl, hl⟩ := e4.lst
    refine ⟨g, 0, a, c, rfl, (Array.getElem?_eq_some_iff.1 hg).1, ?_, hl⟩
    rw [Nat.zero_add, h1.cellAt k (by omega), e3]

theorem LyR.mono {base base' : Nat} {w : World} {lv u : Value} {rs : List (List Int)} (h : LyR base w lv u rs) (e : base' ≤ base) : LyR base' w lv u rs := by
  obtain ⟨vals, h1, h2⟩ := h.own
  refine ⟨⟨vals, World.ownsRow.mono h1 e, fun j hj => ?_⟩, h.apart⟩
  obtain ⟨x, e1, e2⟩ := h2 j hj
  exact ⟨x, e1, e2.mono e⟩
theorem MkR.mono {base base' : Nat} {w : World} {rv lv : Value} {Rs : List (List (List Int))} {Ls : List (List Int)} (h : MkR base w rv lv Rs Ls) (e : base' ≤ base) : MkR base' w rv lv Rs Ls := by
  obtain ⟨vals, h1, h2⟩ := h.rds
  obtain ⟨vl, l1, l2⟩ := h.lns
  refine ⟨⟨vals, World.ownsRow.mono h1 e, fun j hj => ?_⟩, ⟨vl, World.ownsRow.mono l1 e, fun j hj => ?_⟩⟩
  · obtain ⟨u, e1, e3⟩ := h2 j hj
    exact ⟨u, e1, e3.mono e⟩
  · obtain ⟨x, e1, e2⟩ := l2 j hj
    exact ⟨x, e1, e2.mono e⟩
/-- rounds and a line are appended to what was told, which lies in the block O -/
theorem MkR.both {base q r O cz NR NL : Nat} {w8 : World} {rv lv u x : Value} {Rs : List (List (List Int))} {Ls rs : List (List Int)} {l z D : List Int} {az : Option Addr} (h : MkR base w8 rv lv Rs Ls) (hO : w8.rowIs O 74 2 (dub rv lv)) (hOb : O < base) (hrO : r < O) (hu : LyR base w8 lv u rs) (hx : NuE base w8 x l) (hz : NumL w8 az cz z) (hr : RCh q w8 r D) (e1 : Rs.length = NR) (e2 : Ls.length = NL) (n1 : NR ≤ 1000000) (n2 : NL ≤ 1000000) (hbase : base ≤ w8.heap.size) :
    ∃ a c w9 a' c' w10, (Builtin.append_ #[72, 72] 72 #[rv, .slice (some ⟨w8.heap.size, 0, none⟩) 1 1]).run Tryz.prog (w8.alloc (.cells #[u] 22)) = .ok (.slice a (NR + 1) c) w9 ∧ w9.rowIs O 74 2 (dub rv lv) ∧
      (∃ W, W = w9.setCell ⟨O, 0, none⟩ (.slice a (NR + 1) c) ∧ W.rowIs O 74 2 (dub (.slice a (NR + 1) c) lv) ∧ (Builtin.append_ #[22, 22] 22 #[lv, .slice (some ⟨w9.heap.size, 0, none⟩) 1 1]).run Tryz.prog (W.alloc (.cells #[x] 23)) = .ok (.slice a' (NL + 1) c') w10) ∧ w10.rowIs O 74 2 (dub (.slice a (NR + 1) c) lv) ∧
      (w10.setCell ⟨O, 1, none⟩ (.slice a' (NL + 1) c')).rowIs O 74 2 (dub (.slice a (NR + 1) c) (.slice a' (NL + 1) c')) ∧ MkR base (w10.setCell ⟨O, 1, none⟩ (.slice a' (NL + 1) c')) (.slice a (NR + 1) c) (.slice a' (NL + 1) c') (Rs ++ [rs]) (Ls ++ [l]) ∧ NumL (w10.setCell ⟨O, 1, none⟩ (.slice a' (NL + 1) c')) az cz z ∧ RCh q (w10.setCell ⟨O, 1, none⟩ (.slice a' (NL + 1) c')) r D ∧ Below O w8 (w10.setCell ⟨O, 1, none⟩ (.slice a' (NL + 1) c')) ∧ base ≤ (w10.setCell ⟨O, 1, none⟩ (.slice a' (NL + 1) c')).heap.size := by
  subst e1 e2
  have hOt := dub_arr hO
  have hO8 : O < w8.heap.size := World.rowIs.lt hO
  obtain ⟨vR, hvR, _⟩ := h.rds
  obtain ⟨vL, hvL, _⟩ := h.lns
  have hrvO : rv.ownBlock ≠ some O := fun e => by have := (hvR.lt O e).1; omega
  have hlvO : lv.ownBlock ≠ some O := fun e => by have := (hvL.lt O e).1; omega
  have hrvr : rv.ownBlock ≠ some r := fun e => by have := (hvR.lt r e).1; omega
  have hlvr : lv.ownBlock ≠ some r := fun e => by have := (hvL.lt r e).1; omega
  have hrl := hr.lt
  -- the rounds
  have ha1 : Below w8.heap.size w8 (w8.alloc (.cells #[u] 22)) := (Below.refl _ _).alloc (Nat.le_refl _) _
  have k1 := KJ.below ha1
  have hs1 := ha1.size
  obtain ⟨v', w9, hrun1, hM9, k9, ⟨a, c, rfl⟩, hb9, hk9⟩ := (h.below ha1).pushR (X := w8.heap.size) (r := rs) (heap_alloc_new w8 _) (hu.kj k1) n1 (by omega)
  have hO9 : w9.rowIs O 74 2 (dub rv lv) := World.rowIs.of_block hO ((hk9 O (by omega) hrvO).trans (ha1.block O hO8))
  have hz9 := (hz.below ha1).blocks k9.1 (fun g cs f hg => k9.2 g cs _ f hg (.inl rfl))
  have hr9 := (hr.below ha1).blocks k9.1 (hk9 r (by omega) hrvr) (fun g cs f hg => k9.2 g cs _ f hg (.inl rfl))
  have hx9 := (hx.kj k1).kj k9
  -- its store
  obtain ⟨W, hW⟩ : ∃ W, W = w9.setCell ⟨O, 0, none⟩ (.slice a (Rs.length + 1) c) := ⟨_, rfl⟩
  have hgW : w9.grownBy W (some O) := by rw [hW]; exact gb_setCell (gb_refl _ _) 0 _
  have hOt9 := dub_arr hO9
  have kW : KJ w9 W := KJ.other hgW hOt9 (by decide) (by decide)
  have hMW := hM9.grown hgW hOb kW
  have hOW : W.rowIs O 74 2 (dub (.slice a (Rs.length + 1) c) lv) := by rw [hW]; exact dub_set0 hO9 _
  have hne : ∀ (cs : Array Value) (f : Nat × Nat), w9.heap[O]? ≠ some (.cells cs 3 f) := fun cs f e => by rw [hOt9] at e; simp at e
  have hzW := hz9.other hgW hne
  have hrW := hr9.other hgW (by omega) hne
  have hxW := hx9.kj kW
  have hWs : W.heap.size = w9.heap.size := by rw [hW]; simp [World.setCell]
  -- the line
  have ha2 : Below W.heap.size W (W.alloc (.cells #[x] 23)) := (Below.refl _ _).alloc (Nat.le_refl _) _
  have k2 := KJ.below ha2
  have hs2 := ha2.size
  have hb9s := hb9.size
  have hOWl : O < W.heap.size := World.rowIs.lt hOW
  have hrWl := hrW.lt
  obtain ⟨v2, w10, hrun2, hM10, ⟨a', c', rfl⟩, hb10, hk10, hi10⟩ := (hMW.below ha2).pushL (X := W.heap.size) (l := l) (heap_alloc_new W _) (hxW.kj k2) n2 (by omega)
  have hO10 : w10.rowIs O 74 2 (dub (.slice a (Rs.length + 1) c) lv) := World.rowIs.of_block hOW ((hk10 O (by omega) hlvO).trans (ha2.block O hOWl))
  have hz10 := (hzW.below ha2).blocks hb10.size hi10
  have hr10 := (hrW.below ha2).blocks hb10.size (hk10 r (by omega) hlvr) hi10
  have hg11 : w10.grownBy (w10.setCell ⟨O, 1, none⟩ (.slice a' (Ls.length + 1) c')) (some O) := gb_setCell (gb_refl _ _) 1 _
  have hOt10 := dub_arr hO10
  have k11 := KJ.other hg11 hOt10 (by decide) (by decide)
  have hne10 : ∀ (cs : Array Value) (f : Nat × Nat), w10.heap[O]? ≠ some (.cells cs 3 f) := fun cs f e => by rw [hOt10] at e; simp at e
  rw [hWs] at hrun2
  have hb10s := hb10.size
  have s8 : Below O w8 w9 := (ha1.mono (by omega)).trans (hb9.mono (by omega))
  have s9 : Below O w8 W := s8.trans (gb_to hgW (Nat.le_refl _) (by omega))
  have s10 : Below O w8 w10 := (s9.trans (ha2.mono (by omega))).trans (hb10.mono (by omega))
  exact ⟨a, c, w9, a', c', w10, hrun1, hO9, ⟨W, hW, hOW, hrun2⟩, hO10, dub_set1 hO10 _, hM10.grown hg11 hOb k11, hz10.other hg11 hne10, hr10.other hg11 (by omega) hne10, s10.trans (gb_to hg11 (Nat.le_refl _) (by omega)), by have := hg11.size; omega⟩

end Go.Proofs.YtpgnabmkfkcogaaGreatDoor

namespace Go.Proofs.YtpgnabmkfkcogaaGreatDoor
open Go.RowKit

/-- lists of lists of lists that can be read -/
structure LstRR (n0 : Nat) (w : World) (a : Option Addr) (cap : Nat) (Rs : List (List (List Int))) : Prop where
  row : ∀ k, k < Rs.length → ∃ b o ak ck, a = some ⟨b, o, none⟩ ∧ b < n0 ∧ w.cell? ⟨b, o + k, none⟩ = some (.slice ak (rrt Rs k).length ck) ∧ LstR n0 w ak ck (rrt Rs k)
  room : Rs.length ≤ cap
  nil : a = none → cap = 0
theorem LstRR.below {n0 : Nat} {A B : World} {a : Option Addr} {cap : Nat} {Rs : List (List (List Int))} (r : LstRR n0 A a cap Rs) (h : Below n0 A B) : LstRR n0 B a cap Rs :=
  ⟨fun k hk => by
    obtain ⟨b, o, ak, ck, e1, e2, e3, e4⟩ := r.row k hk
    exact ⟨b, o, ak, ck, e1, e2, (h.cell (p := ⟨b, o + k, none⟩) e2).trans e3, e4.below h⟩, r.room, r.nil⟩
/-- how great what is told may be -/
structure LayB (Rs : List (List (List Int))) (Ls : List (List Int)) : Prop where
  r0 : Rs.length ≤ 281474976710656
  r1 : ∀ k, k < Rs.length → (rrt Rs k).length ≤ 5864062014634 ∧ ∀ j, j < (rrt Rs k).length → (rat (rrt Rs k) j).length ≤ 17592186043904 ∧ Fits (rat (rrt Rs k) j)
  l0 : Ls.length ≤ 5864062014634
  l1 : ∀ k, k < Ls.length → (rat Ls k).length ≤ 17592186043904 ∧ Fits (rat Ls k)
theorem LstG.back {n0 : Nat} {A B : World} {a : Option Addr} {cap : Nat} {gs : List GatZ} (r : LstG n0 B a cap gs) (h : Below n0 A B) : LstG n0 A a cap gs :=
  ⟨fun k hk => by
    obtain ⟨b, o, e1, e2, g1, g2, g3⟩ := r.row k hk
    exact ⟨b, o, e1, e2, (h.cell (p := ⟨b, o + k * 3, none⟩) e2).symm.trans g1, (h.cell (p := ⟨b, o + k * 3 + 1, none⟩) e2).symm.trans g2, (h.cell (p := ⟨b, o + k * 3 + 2, none⟩) e2).symm.trans g3⟩, r.room, r.nil⟩
theorem drs_fits {q : Nat} (h3 : 3 ≤ q) (h4 : q ≤ 2147483647) (n : Nat) {D : List Int} (h : Dig D) (k : Nat) : Fits (drs q n k D) := fun j hj => by
  unfold drs at hj ⊢
  rw [ls_len] at hj
  rw [ls_at _ _ _ hj]
  exact (dig_drw h3 h4 n h (j + 1)).2.all 0
structure GsI (wide : Int) (lys : List (List GatZ)) (i : Nat) (s : GSt) : Prop where
  dig : Dig s.D
  len : s.z.length = bnn wide lys (lys.length - i)
  fit : Fits s.z
  c : i64B s.c
theorem gst_ok {q : Nat} (h3 : 3 ≤ q) (h4 : q ≤ 2147483647) (n : Nat) (wide : Int) (lys : List (List GatZ)) (outs : List Int) (Rs : List (List (List Int))) (Ls : List (List Int)) : ∀ i, i ≤ lys.length → GsI wide lys i (gst q n wide lys Rs Ls (gs0 q n wide lys outs) i)
  | 0, _ => by
    have hb := emod_bounds (Sum.ext (zat outs) (zat (drs q n (bnn wide lys lys.length) (digl q n (2 :: (lbz q wide lys lys.length ++ outs))))) (bnn wide lys lys.length)) q h3
    exact ⟨dig_drw h3 h4 n (dig_digl h3 h4 _ _) _, drs_len' _ _ _ _, drs_fits h3 h4 n (dig_digl h3 h4 _ _) _, ⟨by show _ ≤ _ % _; omega, by show _ % _ ≤ _; omega⟩⟩
  | i + 1, h => by
    refine ⟨dig_gan h3 h4 _ _ _, ?_, onl_fits h3 h4 _ _ _, atz_fits h3 h4 _ _⟩
    show (onl _ _ _ _).length = _
    rw [onl_len, List.length_take, gxs_len, show lys.length - (i + 1) = lys.length - 1 - i from by omega]
    omega
set_option maxRecDepth 100000 in
set_option maxHeartbeats 2000000 in
theorem levelOf_at (n0 b i cL : Nat) (wide : Int) (aL : Option Addr) (lys : List (List GatZ)) (w : World) (hS : SzC wide lys) (hi : i < lys.length) (hl : LstGG n0 w aL cL lys) (hn0 : n0 ≤ w.heap.size) (hT : TabAt 2 Lib.deBruijn64tab w) :
    Calls Tryz.prog 82 #[.pointer (some ⟨b, 0, none⟩), .agg #[.int .i64 wide, .slice aL lys.length cL], .int .i64 (i : Int)] w fun e w' => ∃ ag cg, e = .returned (.agg #[.pointer (some ⟨b, 0, none⟩), .slice ag (lyt lys i).length cg, .int .i64 (bnn wide lys i : Int)]) ∧ LstG n0 w ag cg (lyt lys i) ∧ Below w.heap.size w w' := by
  have HRL : Hid (((w.alloc (.cells #[.int .i64 wide, .slice aL lys.length cL] 69)).alloc (.cells #[.pointer none, .slice none 0 0, .int .i64 0] 149)).heap[w.heap.size + 1]? = some (.cells #[.pointer none, .slice none 0 0, .int .i64 0] 149 (0, 0))) := by
    have := heap_alloc_new (w.alloc (.cells #[.int .i64 wide, .slice aL lys.length cL] 69)) (.cells #[.pointer none, .slice none 0 0, .int .i64 0] 149)
    rw [show (w.alloc (.cells #[.int .i64 wide, .slice aL lys.length cL] 69)).heap.size = w.heap.size + 1 from by simp] at this
    exact this
  have HB1 : Hid (Below w.heap.size w ((w.alloc (.cells #[.int .i64 wide, .slice aL lys.length cL] 69)).alloc (.cells #[.pointer none, .slice none 0 0, .int .i64 0] 149))) := ((Below.refl _ _).alloc (Nat.le_refl _) _).alloc (by simp) _
  obtain ⟨bi, oi, ag, cg, ha, hbi, hci, hgi⟩ := hl.row i hi
  have HGI := hid hgi
  subst ha
  obtain ⟨q0, q1⟩ := hS.bn (i := i) (by omega)
  have hlen := hS.2.1.2
  have hin : (i : Int) < (lys.length : Int) := by omega
  have hbi3 : bi < w.heap.size := by omega
  have hbi2 : bi < w.heap.size + 1 := by omega
  clear hn0
  by_cases e0 : i = 0
  · have q2 : wide = (bnn wide lys i : Int) := by rw [← q0]; unfold bnz; rw [if_pos e0]
    rw [← q2]
    have hi0 : ¬ (0 : Int) < (i : Int) := by omega
    generalize (lyt lys i).length = N at *
    generalize lys.length = n at *
    clear hS hl hgi q0 q1 q2 e0 hT
    go_enter Tryz.func82, Tryz.ntmps82
    go_wp2_with (refine wpList_store_row rfl 149 _ _ rfl (w.heap.size + 1) #[.pointer (some ⟨b, 0, none⟩), .slice ag N cg, .int .i64 wide] rfl rfl _ _ HRL.out (by kernel_rfl) rfl (by simp [Value.oneCell']) ?_)
    refine bodyPost_ret (results_cell_row rfl _ _ (w.heap.size + 1) 149 #[.pointer (some ⟨b, 0, none⟩), .slice ag N cg, .int .i64 wide] (0, 0) _ rfl (setRow_heap _ _ _ _ _ _ HRL.out) Tryz.underlying149 rfl (by kernel_rfl)) rfl ?_
    exact ⟨ag, cg, rfl, HGI.out, below_setRow HB1.out (by omega) _⟩
  · obtain ⟨j, hj⟩ : ∃ j, j = i - 1 := ⟨_, rfl⟩
    obtain ⟨bj, oj, aj, cj, ha, hbj, hcj, _⟩ := hl.row j (by omega)
    injection ha with ha
    injection ha with ha1 ha2 _
    subst ha1
    subst ha2
    have hbl : bnn wide lys i ≤ 6 := q1
    obtain ⟨o1, o2⟩ := hS.own (i := j) (by omega)
    rw [show j + 1 = i from by omega] at o1 o2
    have HV := hid (gvars_any (lyt lys j).length (bnn wide lys i) _ hbl o1 (tabu_below hT HB1.out))
    have hi0 : (0 : Int) < (i : Int) := by omega
    have hij : (i : Int) - 1 = (j : Int) := by omega
    have hjn : (j : Int) < (lys.length : Int) := by omega
    generalize bnn wide lys i = B at *
    generalize (lyt lys i).length = N at *
    generalize (lyt lys j).length = M at *
    generalize lys.length = n at *
    clear hS hl hgi q0 q1 e0 hT hbl o1 o2 hj
    go_enter Tryz.func82, Tryz.ntmps82
    go_wp2_with fail
    refine HV.out.mono ?_
    rintro e w1 ⟨rfl, hw⟩
    have hw1 := hw.symm
    subst hw1
    clear hw HV
    go_wp2_with (refine wpList_store_row rfl 149 _ _ rfl (w.heap.size + 1) #[.pointer (some ⟨b, 0, none⟩), .slice ag N cg, .int .i64 (B : Int)] rfl rfl _ _ HRL.out (by kernel_rfl) rfl (by simp [Value.oneCell']) ?_)
    refine bodyPost_ret (results_cell_row rfl _ _ (w.heap.size + 1) 149 #[.pointer (some ⟨b, 0, none⟩), .slice ag N cg, .int .i64 (B : Int)] (0, 0) _ rfl (setRow_heap _ _ _ _ _ _ HRL.out) Tryz.underlying149 rfl (by kernel_rfl)) rfl ?_
    exact ⟨ag, cg, rfl, HGI.out, below_setRow HB1.out (by omega) _⟩
end Go.Proofs.YtpgnabmkfkcogaaGreatDoor
