/- What attestref5.Make makes. attestref5.Make: roots and trees apart. attestref5.Make: what stands on the way. attestref5.Make: its turns. attestref5.Make: what stands behind its first loop. -/
import Derived.Test.YtfppkjpgihnibaaGreatDoorFolU
import Derived.Test.YtfppkjpgihnibaaGreatDoorLawOCatches
import Derived.Test.YtfppkjpgihnibaaGreatDoorFolk
namespace Go.Proofs.YtfppkjpgihnibaaGreatDoor
open Go.RowKit

/-- the word and the chain behind so many rounds -/
def mks (q n K : Nat) (r s : Int) (word D : List Int) : Nat → List Int × List Int
  | 0 => (word, D)
  | i + 1 =>
    let W := (mks q n K r s word D i).1
    let D2 := digl q n (4 :: digl q n (3 :: ((mks q n K r s word D i).2 ++ rtf q n (prs5 q W).length (prs5 q W))))
    (Fol.foldz q (2 ^ (K - i - 1)) (sqi q r i) (sqi q s i) W (zat D2 0), D2)
/-- a round's tree and its root -/
def mkt (q n K : Nat) (r s : Int) (word D : List Int) (i : Nat) : List (List Int) := prs5 q (mks q n K r s word D i).1
def mkr (q n K : Nat) (r s : Int) (word D : List Int) (i : Nat) : List Int := rtf q n (mkt q n K r s word D i).length (mkt q n K r s word D i)
def mkR (q n K : Nat) (r s : Int) (word D : List Int) (m : Nat) : List (List Int) := (List.range m).map (mkr q n K r s word D)
def mkT (q n K : Nat) (r s : Int) (word D : List Int) (m : Nat) : List (List (List Int)) := (List.range m).map (mkt q n K r s word D)
def mkl (q n K : Nat) (r s : Int) (word D : List Int) (m : Nat) : List Int := bk q (2 ^ (K - m)) (sqi q r m) (sqi q s m) (mks q n K r s word D m).1
def mkA (q n K : Nat) (r s : Int) (word D : List Int) (m a : Nat) : List Int := ckA q n K (mkR q n K r s word D m) (mkl q n K r s word D m) D m a
def mko (q n K : Nat) (r s : Int) (word D : List Int) (m a i : Nat) : OnZ :=
  let ps := mdz (mkA q n K r s word D m a) (2 ^ (K - i - 1))
  ⟨ps, shw q (mkt q n K r s word D i) ps, ndf q n (mkt q n K r s word D i).length (mkt q n K r s word D i) ps 0⟩
def mkO (q n K : Nat) (r s : Int) (word D : List Int) (m a : Nat) : List OnZ := (List.range m).map (mko q n K r s word D m a)

theorem mks_len {q n K : Nat} {r s : Int} {word D : List Int} (hw : word.length = 2 ^ K) : ∀ i, i ≤ K → (mks q n K r s word D i).1.length = 2 ^ (K - i)
  | 0, _ => hw
  | i + 1, _ => by rw [mks, Fol.foldz_len, Nat.sub_sub]
theorem mks_fits {q n K : Nat} {r s : Int} {word D : List Int} (h3 : 3 ≤ q) (h4 : q ≤ 2147483647) (hw : Fits word) : ∀ i, Fits (mks q n K r s word D i).1
  | 0 => hw
  | i + 1 => by rw [mks]; exact foldz_fits h3 h4 _ _ _ _ _
theorem mks_dig {q n K : Nat} {r s : Int} {word D : List Int} (h3 : 3 ≤ q) (h4 : q ≤ 2147483647) (hD : Dig D) : ∀ i, Dig (mks q n K r s word D i).2
  | 0 => hD
  | i + 1 => by rw [mks]; exact dig_digl h3 h4 _ _
theorem mkt_len {q n K : Nat} {r s : Int} {word D : List Int} (hw : word.length = 2 ^ K) {i : Nat} (hi : i < K) : (mkt q n K r s word D i).length = 2 ^ (K - i - 1) := by
  rw [mkt, prs5_len, mks_len hw i (by omega), show K - i = (K - i - 1) + 1 from by omega, Nat.pow_succ]
  simp
theorem mkR_len (q n K : Nat) (r s : Int) (word D : List Int) (m : Nat) : (mkR q n K r s word D m).length = m := by simp [mkR]
theorem mkT_len (q n K : Nat) (r s : Int) (word D : List Int) (m : Nat) : (mkT q n K r s word D m).length = m := by simp [mkT]
theorem mkO_len (q n K : Nat) (r s : Int) (word D : List Int) (m a : Nat) : (mkO q n K r s word D m a).length = m := by simp [mkO]
theorem mkR_succ (q n K : Nat) (r s : Int) (word D : List Int) (m : Nat) : mkR q n K r s word D (m + 1) = mkR q n K r s word D m ++ [mkr q n K r s word D m] := by simp [mkR, List.range_succ]
theorem mkT_succ (q n K : Nat) (r s : Int) (word D : List Int) (m : Nat) : mkT q n K r s word D (m + 1) = mkT q n K r s word D m ++ [mkt q n K r s word D m] := by simp [mkT, List.range_succ]
theorem mkR_rat {q n K : Nat} {r s : Int} {word D : List Int} {m i : Nat} (h : i < m) : rat (mkR q n K r s word D m) i = mkr q n K r s word D i := by simp [rat, mkR, h]
theorem mkT_tat {q n K : Nat} {r s : Int} {word D : List Int} {m i : Nat} (h : i < m) : tat (mkT q n K r s word D m) i = mkt q n K r s word D i := by simp [tat, mkT, h]
theorem mkO_onat {q n K : Nat} {r s : Int} {word D : List Int} {m a i : Nat} (h : i < m) : onat (mkO q n K r s word D m a) i = mko q n K r s word D m a i := by simp [onat, mkO, h]
/-- the chain goes as Check's -/
theorem mks_ckD {q n K : Nat} {r s : Int} {word D : List Int} {m : Nat} : ∀ i, i ≤ m → ckD q n (mkR q n K r s word D m) D i = (mks q n K r s word D i).2
  | 0, _ => rfl
  | i + 1, h => by rw [ckD, mks_ckD i (by omega), mkR_rat (by omega), mks]; rfl
theorem mkr_len {q n K : Nat} {r s : Int} {word D : List Int} (hw : word.length = 2 ^ K) {i : Nat} (hi : i < K) : (mkr q n K r s word D i).length = 4 := by
  rw [mkr, rtf_len]
  rw [mkt_len hw hi]
  exact Nat.pow_pos (by decide)
theorem mkr_fits {q n K : Nat} {r s : Int} {word D : List Int} (h3 : 3 ≤ q) (h4 : q ≤ 2147483647) (i : Nat) : Fits (mkr q n K r s word D i) := rtf_fits h3 h4 _ _ _
theorem mkt_fits {q n K : Nat} {r s : Int} {word D : List Int} (h3 : 3 ≤ q) (h4 : q ≤ 2147483647) (i : Nat) : FitsR (mkt q n K r s word D i) := fun k hk => by
  rw [mkt, prs5_len] at hk
  rw [mkt, prs5_rat hk]
  have e1 := emod_bounds (zat (mks q n K r s word D i).1 k) q h3
  have e2 := emod_bounds (zat (mks q n K r s word D i).1 (k + (mks q n K r s word D i).1.length / 2)) q h3
  generalize zat (mks q n K r s word D i).1 k % (q : Int) = x at *
  generalize zat (mks q n K r s word D i).1 (k + (mks q n K r s word D i).1.length / 2) % (q : Int) = y at *
  refine ⟨fun j hj => ?_, by simp⟩
  have : j = 0 ∨ j = 1 := by simp at hj; omega
  rcases this with rfl | rfl
  · show -9223372036854775808 ≤ x ∧ x ≤ 9223372036854775807
    omega
  · show -9223372036854775808 ≤ y ∧ y ≤ 9223372036854775807
    omega

end Go.Proofs.YtfppkjpgihnibaaGreatDoor

namespace Go.Proofs.YtfppkjpgihnibaaGreatDoor
open Go.RowKit

/-- append(out, c), and what stays -/
theorem wpList_rowS {ops : Array Oper} {rest : List Oper} {o : Oper} {act : Act} {Q : Exit → Act → World → Prop} (W : World) (base : Nat) (hgd : o.guard = none) (s x : Operand)
    (ho : o.op = .call { callee := .builtin .append, args := #[s, x], argTypes := #[33, 33] }) (v u : Value) (rs : List (List Int)) (r : List Int)
    (hown : OwnI base W v rs) (hu : SlI W r u) (hs : act.eval s = v) (hx : act.eval x = .slice (some ⟨W.heap.size, 0, none⟩) 1 1) (hlen : rs.length + 1 ≤ 5864062014805) (hbase : base ≤ W.heap.size)
    (h : ∀ v' w2, OwnI base w2 v' (rs ++ [r]) → Below base W w2 → W.heap.size ≤ w2.heap.size → (∀ b, b < W.heap.size → v.ownBlock ≠ some b → w2.heap[b]? = W.heap[b]?) → wpList Tryz.prog ops Q rest (act.put o.dst v') w2) :
    wpList Tryz.prog ops Q (o :: rest) act (W.alloc (.cells #[u] 22)) := by
  have hbw : Below W.heap.size W (W.alloc (.cells #[u] 22)) := (Below.refl _ _).alloc (Nat.le_refl _) _
  obtain ⟨i0, hi, hz0, hz1, hz2⟩ := info_parts Tryz.infoSl
  have hown1 := hown.ki (KI.below hbw)
  have hu1 := hu.ki (KI.below hbw)
  have howb := hown1.own
  obtain ⟨vals, h1, h2⟩ := hown1
  have hvl : vals.length = rs.length := by have := h1.1; omega
  refine wpList_append_own _ hgd s x 33 ho base 22 i0 (.slice none 0 0) 1 24 Tryz.underlying33 hi hz0 hz1 hz2 rfl (by decide) _ _ _ hs h1 ⟨W.heap.size, 0, none⟩ 1 1 [u] hx rfl ?_ ?_ (by unfold maxLen; omega) (by omega) (by simp; omega) ?_
  · intro j t hj
    match j, hj with
    | 0, hj => simp at hj; subst hj; simp [Addr.add]
  · intro t ht
    obtain rfl : t = u := by simpa using ht
    exact hu.one
  · intro v' w2 hown2 hgrow _
    have hK : ∀ (g : Nat) (cs : Array Value) (f : Nat × Nat), (W.alloc (.cells #[u] 22)).heap[g]? = some (.cells cs 3 f) → w2.heap[g]? = (W.alloc (.cells #[u] 22)).heap[g]? := fun g cs f hg => by
      refine hgrow.block g (Array.getElem?_eq_some_iff.1 hg).1 (fun e => ?_)
      obtain ⟨_, c, f', h3⟩ := howb g e.symm
      rw [hg] at h3
      injection h3 with h3
      injection h3 with _ h4 _
      exact absurd h4 (by decide)
    have hkS : ∀ {r : List Int} {v : Value}, SlI (W.alloc (.cells #[u] 22)) r v → SlI w2 r v := fun hh => by
      obtain ⟨a, c, e1, e2⟩ := hh
      exact ⟨a, c, e1, e2.blocks hgrow.size hK⟩
    have hsz : W.heap.size ≤ w2.heap.size := by have := hgrow.size; simp at this; omega
    refine h v' w2 ⟨vals ++ [u], by rw [List.length_append]; exact hown2, fun j hj => ?_⟩ ((hbw.mono hbase).trans ((Below.refl base _).grown hgrow (by simp; omega) (fun k hk => (howb k hk).1))) hsz (fun b hb hne => ?_)
    · rw [List.length_append] at hj
      rw [rat_app rs [r] j]
      by_cases hjr : j < rs.length
      · rw [if_pos hjr, List.getElem?_append_left (by omega)]
        obtain ⟨u', e1, e2⟩ := h2 j hjr
        exact ⟨u', e1, hkS e2⟩
      · obtain rfl : j = rs.length := by simp at hj; omega
        rw [if_neg hjr, List.getElem?_append_right (by omega), hvl, Nat.sub_self]
        exact ⟨u, rfl, hkS hu1⟩
    · have e := hbw.block b hb
      exact (hgrow.block b (by simp; omega) (fun e => hne e.symm)).trans e

/-- rows of unlike widths lie apart -/
theorem OwnI.sep {b b' : Nat} {w : World} {v u : Value} {rs ts : List (List Int)} (h : OwnI b w v rs) (k : OwnI b' w u ts) (h0 : 0 < rs.length) (k0 : 0 < ts.length) (hne : (rat rs 0).length ≠ (rat ts 0).length) : ∀ g, v.ownBlock = some g → u.ownBlock ≠ some g := fun g hg hu => by
  obtain ⟨vals, h1, h2⟩ := h
  obtain ⟨uals, k1, k2⟩ := k
  obtain ⟨x, x1, a, c, rfl, _⟩ := h2 0 h0
  obtain ⟨y, y1, a', c', rfl, _⟩ := k2 0 k0
  rcases h1.2 with ⟨rfl, _⟩ | ⟨g1, cap, cur, rfl, _⟩
  · cases hg
  · rcases k1.2 with ⟨rfl, _⟩ | ⟨g2, cap', cur', rfl, _⟩
    · cases hu
    · simp [Value.ownBlock] at hg hu
      subst hg
      subst hu
      have e1 := h1.cellAt 0 (by omega)
      have e2 := k1.cellAt 0 (by omega)
      rw [x1] at e1
      rw [y1, e1] at e2
      injection e2 with e2
      injection e2 with _ e3 _
      exact hne e3
/-- a turn of one block of lists leaves rows that lie apart from it -/
theorem OwnI.apart {base : Nat} {w w' : World} {u v : Value} {ts : List (List Int)} (h : OwnI base w u ts) (hs : w.heap.size ≤ w'.heap.size) (hv : ∀ g, v.ownBlock = some g → ∃ c f, w.heap[g]? = some (.cells c 22 f)) (hne : ∀ g, v.ownBlock = some g → u.ownBlock ≠ some g) (e : ∀ b, b < w.heap.size → v.ownBlock ≠ some b → w'.heap[b]? = w.heap[b]?) : OwnI base w' u ts := by
  obtain ⟨vals, h1, h2⟩ := h
  refine ⟨vals, ⟨h1.1, ?_⟩, fun j hj => ?_⟩
  · rcases h1.2 with hn | ⟨g, cap, cur, rfl, hb, hg, rest⟩
    · exact .inl hn
    · exact .inr ⟨g, cap, cur, rfl, hb, (e g (Array.getElem?_eq_some_iff.1 hg).1 (fun hh => hne g hh rfl)).trans hg, rest⟩
  · obtain ⟨x, x1, a, c, x2, x3⟩ := h2 j hj
    refine ⟨x, x1, a, c, x2, x3.blocks hs (fun g cs f hg => e g (Array.getElem?_eq_some_iff.1 hg).1 (fun hh => ?_))⟩
    obtain ⟨c', f', h5⟩ := hv g hh
    rw [hg] at h5
    injection h5 with h5
    injection h5 with _ h6 _
    exact absurd h6 (by decide)
/-- a root more leaves the trees -/
theorem OwnT.roots {base b' : Nat} {w w' : World} {v vt : Value} {rs : List (List Int)} {ts : List (List (List Int))} (h : OwnT base w vt ts) (hr : OwnI b' w v rs) (h0 : rs = [] → v.ownBlock = none) (h4 : ∀ j, j < rs.length → (rat rs j).length = 4) (h2 : ∀ j, j < ts.length → 0 < (tat ts j).length ∧ (rat (tat ts j) 0).length = 2) (hs : w.heap.size ≤ w'.heap.size) (e : ∀ b, b < w.heap.size → v.ownBlock ≠ some b → w'.heap[b]? = w.heap[b]?) : OwnT base w' vt ts := by
  obtain ⟨vals, h1, h3⟩ := h
  have hv := fun g hg => (hr.own g hg).2
  refine ⟨vals, ⟨h1.1, ?_⟩, fun j hj => ?_⟩
  · rcases h1.2 with hn | ⟨g, cap, cur, rfl, hb, hg, rest⟩
    · exact .inl hn
    · refine .inr ⟨g, cap, cur, rfl, hb, (e g (Array.getElem?_eq_some_iff.1 hg).1 (fun hh => ?_)).trans hg, rest⟩
      obtain ⟨c', f', h5⟩ := hv g hh
      rw [hg] at h5
      injection h5 with h5
      injection h5 with _ h6 _
      exact absurd h6 (by decide)
  · obtain ⟨u, e1, e2⟩ := h3 j hj
    refine ⟨u, e1, e2.apart hs hv (fun g hg => ?_) e⟩
    by_cases hn : rs = []
    · rw [h0 hn] at hg; cases hg
    · have hp : 0 < rs.length := List.length_pos_iff.2 hn
      exact hr.sep e2 hp (h2 j hj).1 (by rw [h4 0 hp, (h2 j hj).2]; decide) g hg

end Go.Proofs.YtfppkjpgihnibaaGreatDoor

namespace Go.Proofs.YtfppkjpgihnibaaGreatDoor
open Go.RowKit

/-- the word: the given one, below the chain; or one of the call's own -/
def WdAt (n0 : Nat) (W : World) (a : Option Addr) (c : Nat) (l : List Int) : Prop := Lst n0 W a c l ∨ NumL W a c l
theorem WdAt.kept {n0 : Nat} {W W' : World} {a : Option Addr} {c : Nat} {l : List Int} (h : WdAt n0 W a c l) (k : KI W W') (b : Below n0 W W') : WdAt n0 W' a c l := by
  rcases h with h | h
  · exact Or.inl (h.below b)
  · exact Or.inr (h.ki k)
theorem WdAt.row {n0 : Nat} {W : World} {a : Option Addr} {c : Nat} {l : List Int} (h : WdAt n0 W a c l) (hn : n0 ≤ W.heap.size) : RowB W.heap.size W a l := by
  rcases h with h | h
  · exact (h.mono hn).row
  · exact h.1.row

structure MkS (n0 B rch q : Nat) (vq vf : Array Value) (v1 vt : Value) (R : List (List Int)) (T : List (List (List Int))) (aw : Option Addr) (cw : Nat) (wl Dc : List Int) (w W : World) : Prop where
  gb : w.grownBy W (some rch)
  dom : W.heap[B]? = some (.cells vq 26 (0, 0))
  res : W.heap[B + 1]? = some (.cells #[.slice none 0 0, .slice none 0 0, .slice none 0 0] 36 (0, 0))
  out : W.heap[B + 2]? = some (.cells #[v1, .slice none 0 0, .slice none 0 0] 36 (0, 0))
  fst : W.heap[B + 3]? = some (.cells vf 26 (0, 0))
  rc : RCh q W rch Dc
  rts : OwnI B W v1 R
  trs : OwnT B W vt T
  wd : WdAt n0 W aw cw wl
  hB : w.heap.size = B
  hr : rch < B
  hn : n0 ≤ rch
section
variable {n0 B rch q : Nat} {vq vf : Array Value} {v1 vt : Value} {R : List (List Int)} {T : List (List (List Int))} {aw : Option Addr} {cw : Nat} {wl Dc : List Int} {w W W' : World}
theorem MkS.size (h : MkS n0 B rch q vq vf v1 vt R T aw cw wl Dc w W) : B + 4 ≤ W.heap.size := by
  have := (Array.getElem?_eq_some_iff.1 h.fst).1
  omega
theorem MkS.step (h : MkS n0 B rch q vq vf v1 vt R T aw cw wl Dc w W) (e : Below W.heap.size W W') : MkS n0 B rch q vq vf v1 vt R T aw cw wl Dc w W' := by
  have hz := h.size
  have hr := h.hr
  have hn := h.hn
  have k := KT.below e
  exact ⟨gb_trans h.gb (gb_below e), (e.block _ (by omega)).trans h.dom, (e.block _ (by omega)).trans h.res, (e.block _ (by omega)).trans h.out, (e.block _ (by omega)).trans h.fst, h.rc.below e, h.rts.ki k.1.1, h.trs.kt k, h.wd.kept k.1.1 (e.mono (by omega)), h.hB, h.hr, h.hn⟩
theorem MkS.chain {Dc' : List Int} (h : MkS n0 B rch q vq vf v1 vt R T aw cw wl Dc w W) (g : W.grownBy W' (some rch)) (r' : RCh q W' rch Dc') : MkS n0 B rch q vq vf v1 vt R T aw cw wl Dc' w W' := by
  have hz := h.size
  have hr := h.hr
  have hn := h.hn
  obtain ⟨_, _, hblk, _⟩ := h.rc
  have k : KT W W' := KT.oth hblk (by decide) (by decide) (by decide) (by decide) g.size (fun b hb hne => gb_blk g hb hne)
  exact ⟨gb_trans h.gb g, (gb_blk g (by omega) (by omega)).trans h.dom, (gb_blk g (by omega) (by omega)).trans h.res, (gb_blk g (by omega) (by omega)).trans h.out, (gb_blk g (by omega) (by omega)).trans h.fst, r', h.rts.ki k.1.1, h.trs.kt k, h.wd.kept k.1.1 (gb_to g hn (by omega)), h.hB, h.hr, h.hn⟩
theorem MkS.word {aw' : Option Addr} {cw' : Nat} {wl' : List Int} (h : MkS n0 B rch q vq vf v1 vt R T aw cw wl Dc w W) (x : NumL W aw' cw' wl') : MkS n0 B rch q vq vf v1 vt R T aw' cw' wl' Dc w W := ⟨h.gb, h.dom, h.res, h.out, h.fst, h.rc, h.rts, h.trs, Or.inr x, h.hB, h.hr, h.hn⟩
/-- a turn of one block of another kind, from B on -/
theorem MkS.one {O : Nat} {c : Array Value} {t : TypeId} {f : Nat × Nat} {vq' : Array Value} {v1' : Value} (h : MkS n0 B rch q vq vf v1 vt R T aw cw wl Dc w W) (hO : W.heap[O]? = some (.cells c t f)) (h1 : t ≠ 3) (h2 : t ≠ 22) (h3 : t ≠ 107) (h4 : t ≠ 33) (hOB : B ≤ O) (hs : W'.heap.size = W.heap.size) (ho : W'.os = W.os) (hta : W'.tape = W.tape) (hou : W'.output = W.output) (e : ∀ b, b ≠ O → W'.heap[b]? = W.heap[b]?)
    (hd : W'.heap[B]? = some (.cells vq' 26 (0, 0))) (hou2 : W'.heap[B + 2]? = some (.cells #[v1', .slice none 0 0, .slice none 0 0] 36 (0, 0))) (hx1 : O ≠ B + 1) (hx3 : O ≠ B + 3) (hv : v1' = v1) : MkS n0 B rch q vq' vf v1' vt R T aw cw wl Dc w W' := by
  subst hv
  have hz := h.size
  have hr := h.hr
  have hn := h.hn
  have hB := h.hB
  have k : KT W W' := KT.oth hO h1 h2 h3 h4 (by omega) (fun b _ hb => e b hb)
  have hbl : Below B W W' := ⟨ho, hta, hou, by omega, fun b hb => e b (by omega)⟩
  have hbw : w.grownBy W' (some rch) := ⟨hbl.os.trans h.gb.os, hbl.tape.trans h.gb.tape, hbl.output.trans h.gb.output, Nat.le_trans h.gb.size hbl.size, fun b hb hne => (hbl.block b (by omega)).trans (h.gb.block b hb hne)⟩
  exact ⟨hbw, hd, (e _ (by omega)).trans h.res, hou2, (e _ (by omega)).trans h.fst, h.rc.blocks (by omega) (e _ (by omega)) (fun g cs f hg => k.1.1.2 g cs _ f hg (.inl rfl)), h.rts.ki k.1.1, h.trs.kt k, h.wd.kept k.1.1 (hbl.mono (by omega)), h.hB, h.hr, h.hn⟩
end

end Go.Proofs.YtfppkjpgihnibaaGreatDoor

namespace Go.Proofs.YtfppkjpgihnibaaGreatDoor
open Go.RowKit

section
variable {n0 B rch q : Nat} {vq vf : Array Value} {v1 vt : Value} {R : List (List Int)} {T : List (List (List Int))} {aw : Option Addr} {cw : Nat} {wl Dc : List Int} {w W W' : World}
theorem MkS.dput {a b c d : Value} (h : MkS n0 B rch q #[a, b, c, d] vf v1 vt R T aw cw wl Dc w W) (a' b' c' d' : Value) : MkS n0 B rch q #[a', b', c', d'] vf v1 vt R T aw cw wl Dc w ((((W.setCell ⟨B, 0, none⟩ a').setCell ⟨B, 1, none⟩ b').setCell ⟨B, 2, none⟩ c').setCell ⟨B, 3, none⟩ d') := by
  have e : ∀ x, x ≠ B → ((((W.setCell ⟨B, 0, none⟩ a').setCell ⟨B, 1, none⟩ b').setCell ⟨B, 2, none⟩ c').setCell ⟨B, 3, none⟩ d').heap[x]? = W.heap[x]? := fun x hx => by
    rw [Below.heap_setCell _ _ _ _ hx, Below.heap_setCell _ _ _ _ hx, Below.heap_setCell _ _ _ _ hx, Below.heap_setCell _ _ _ _ hx]
  exact h.one h.dom (by decide) (by decide) (by decide) (by decide) (Nat.le_refl _) (by simp [World.setCell]) rfl rfl rfl e (four_put h.dom _ _ _ _) ((e _ (by omega)).trans h.out) (by omega) (by omega) rfl
theorem MkS.tree {vt' : Value} {t : List (List Int)} (h : MkS n0 B rch q vq vf v1 vt R T aw cw wl Dc w W) (ho : OwnT B W' vt' (T ++ [t])) (hb : Below B W W') (hns : ∀ (b : Nat) (c : Array Value) (t : TypeId) (f : Nat × Nat), W.heap[b]? = some (.cells c t f) → t ≠ 33 → W'.heap[b]? = W.heap[b]?) : MkS n0 B rch q vq vf v1 vt' R (T ++ [t]) aw cw wl Dc w W' := by
  have hr := h.hr
  have hn := h.hn
  have hB := h.hB
  have k : KI W W' := ⟨hb.size, fun b cs t f hg ht => hns b cs t f hg (by rcases ht with rfl | rfl <;> decide)⟩
  have hbw : w.grownBy W' (some rch) := ⟨hb.os.trans h.gb.os, hb.tape.trans h.gb.tape, hb.output.trans h.gb.output, Nat.le_trans h.gb.size hb.size, fun b hx hne => (hb.block b (by omega)).trans (h.gb.block b hx hne)⟩
  exact ⟨hbw, (hns _ _ _ _ h.dom (by decide)).trans h.dom, (hns _ _ _ _ h.res (by decide)).trans h.res, (hns _ _ _ _ h.out (by decide)).trans h.out, (hns _ _ _ _ h.fst (by decide)).trans h.fst, h.rc.blocks hb.size (hb.block _ hr) (fun g cs f hg => k.2 g cs _ f hg (.inl rfl)), h.rts.ki k, ho, h.wd.kept k (hb.mono (by omega)), h.hB, h.hr, h.hn⟩
theorem MkS.root {v1' : Value} {r : List Int} (h : MkS n0 B rch q vq vf v1 vt R T aw cw wl Dc w W) (ho : OwnI B W' v1' (R ++ [r])) (hb : Below B W W') (e : ∀ b, b < W.heap.size → v1.ownBlock ≠ some b → W'.heap[b]? = W.heap[b]?) (h0 : R = [] → v1.ownBlock = none) (h4 : ∀ j, j < R.length → (rat R j).length = 4) (h2 : ∀ j, j < T.length → 0 < (tat T j).length ∧ (rat (tat T j) 0).length = 2) :
    MkS n0 B rch q vq vf v1' vt (R ++ [r]) T aw cw wl Dc w (W'.setCell ⟨B + 2, 0, none⟩ v1') := by
  have hr := h.hr
  have hn := h.hn
  have hB := h.hB
  have ht : ∀ {b : Nat} {c : Array Value} {t : TypeId} {f : Nat × Nat}, W.heap[b]? = some (.cells c t f) → t ≠ 22 → W'.heap[b]? = some (.cells c t f) := fun {b c t f} hg hne => (e b (Array.getElem?_eq_some_iff.1 hg).1 (fun hh => by
    obtain ⟨c', f', h5⟩ := (h.rts.own b hh).2
    rw [hg] at h5
    injection h5 with h5
    injection h5 with _ h6 _
    exact hne h6)).trans hg
  have hout := ht h.out (by decide)
  have hT := h.trs.roots h.rts h0 h4 h2 hb.size e
  have hne : ∀ x, x ≠ B + 2 → (W'.setCell ⟨B + 2, 0, none⟩ v1').heap[x]? = W'.heap[x]? := fun x hx => Below.heap_setCell _ _ _ _ hx
  have k : KT W' (W'.setCell ⟨B + 2, 0, none⟩ v1') := KT.oth hout (by decide) (by decide) (by decide) (by decide) (by simp [World.setCell]) (fun b _ hx => hne b hx)
  have hb2 : Below B W (W'.setCell ⟨B + 2, 0, none⟩ v1') := hb.setCell (p := ⟨B + 2, 0, none⟩) (by show B ≤ B + 2; omega) _
  have hbw : w.grownBy (W'.setCell ⟨B + 2, 0, none⟩ v1') (some rch) := ⟨hb2.os.trans h.gb.os, hb2.tape.trans h.gb.tape, hb2.output.trans h.gb.output, Nat.le_trans h.gb.size hb2.size, fun b hx hne => (hb2.block b (by omega)).trans (h.gb.block b hx hne)⟩
  have hI : ∀ (g : Nat) (cs : Array Value) (f : Nat × Nat), W.heap[g]? = some (.cells cs 3 f) → (W'.setCell ⟨B + 2, 0, none⟩ v1').heap[g]? = W.heap[g]? := fun g cs f hg => by
    have h7 := ht hg (by decide)
    exact ((k.1.1.2 g cs _ f h7 (.inl rfl)).trans h7).trans hg.symm
  refine ⟨hbw, (hne _ (by omega)).trans (ht h.dom (by decide)), (hne _ (by omega)).trans (ht h.res (by decide)), tri_arr (tri_set0 (thr_row hout) v1'), (hne _ (by omega)).trans (ht h.fst (by decide)), h.rc.blocks hb2.size (hb2.block _ hr) hI, ho.ki k.1.1, hT.kt k, ?_, h.hB, h.hr, h.hn⟩
  rcases h.wd with hw | hw
  · exact Or.inl (hw.below (hb2.mono (by omega)))
  · exact Or.inr (hw.blocks hb2.size hI)
theorem MkS.outK (h : MkS n0 B rch q vq vf v1 vt R T aw cw wl Dc w W) (e : ∀ b, b < W.heap.size → v1.ownBlock ≠ some b → W'.heap[b]? = W.heap[b]?) : W'.heap[B + 2]? = some (.cells #[v1, .slice none 0 0, .slice none 0 0] 36 (0, 0)) :=
  (e _ (Array.getElem?_eq_some_iff.1 h.out).1 (fun hh => by
    obtain ⟨c', f', h5⟩ := (h.rts.own _ hh).2
    rw [h.out] at h5
    injection h5 with h5
    injection h5 with _ h6 _
    exact absurd h6 (by decide))).trans h.out
end

end Go.Proofs.YtfppkjpgihnibaaGreatDoor

namespace Go.Proofs.YtfppkjpgihnibaaGreatDoor
open Go.RowKit

theorem OwnT.kq {base : Nat} {w w' : World} {v : Value} {ts : List (List (List Int))} (h : OwnT base w v ts) (k : KI w w') (e : ∀ (b : Nat) (cs : Array Value) (f : Nat × Nat), w.heap[b]? = some (.cells cs 33 f) → w'.heap[b]? = w.heap[b]?) : OwnT base w' v ts := by
  obtain ⟨vals, h1, h2⟩ := h
  refine ⟨vals, ⟨h1.1, ?_⟩, fun j hj => ?_⟩
  · rcases h1.2 with hn | ⟨g, cap, cur, rfl, hb, hg, rest⟩
    · exact .inl hn
    · exact .inr ⟨g, cap, cur, rfl, hb, (e g _ _ hg).trans hg, rest⟩
  · obtain ⟨u, e1, e2⟩ := h2 j hj
    exact ⟨u, e1, e2.ki k⟩
structure MkU (B rch q : Nat) (vq vf : Array Value) (v1 v2 v3 vt vp : Value) (R : List (List Int)) (L : List Int) (O : List OnZ) (T : List (List (List Int))) (A Dc : List Int) (w W : World) : Prop where
  gb : w.grownBy W (some rch)
  dom : W.heap[B]? = some (.cells vq 26 (0, 0))
  res : W.heap[B + 1]? = some (.cells #[.slice none 0 0, .slice none 0 0, .slice none 0 0] 36 (0, 0))
  out : W.heap[B + 2]? = some (.cells #[v1, v2, v3] 36 (0, 0))
  fst : W.heap[B + 3]? = some (.cells vf 26 (0, 0))
  rc : RCh q W rch Dc
  rts : OwnI B W v1 R
  lst : SlI W L v2
  ops : OwnF B W v3 O
  trs : OwnT B W vt T
  pls : SlI W A vp
  hB : w.heap.size = B
  hr : rch < B
section
variable {n0 B rch q : Nat} {vq vf : Array Value} {v1 v2 v3 vt vp : Value} {R : List (List Int)} {L : List Int} {O : List OnZ} {T : List (List (List Int))} {A Dc : List Int} {w W W' : World}
theorem MkU.size (h : MkU B rch q vq vf v1 v2 v3 vt vp R L O T A Dc w W) : B + 4 ≤ W.heap.size := by
  have := (Array.getElem?_eq_some_iff.1 h.fst).1
  omega
theorem MkU.step (h : MkU B rch q vq vf v1 v2 v3 vt vp R L O T A Dc w W) (e : Below W.heap.size W W') : MkU B rch q vq vf v1 v2 v3 vt vp R L O T A Dc w W' := by
  have k := KT.below e
  have hz := h.size
  exact ⟨gb_trans h.gb (gb_below e), (e.block _ (by omega)).trans h.dom, (e.block _ (by omega)).trans h.res, (e.block _ (by omega)).trans h.out, (e.block _ (by omega)).trans h.fst, h.rc.below e, h.rts.ki k.1.1, h.lst.ki k.1.1, h.ops.keep e, h.trs.kt k, h.pls.ki k.1.1, h.hB, h.hr⟩
theorem MkU.chain {Dc' : List Int} (h : MkU B rch q vq vf v1 v2 (.slice none 0 0) vt vp R L [] T A Dc w W) (g : W.grownBy W' (some rch)) (r' : RCh q W' rch Dc') : MkU B rch q vq vf v1 v2 (.slice none 0 0) vt vp R L [] T A Dc' w W' := by
  have hz := h.size
  have hr := h.hr
  obtain ⟨_, _, hblk, _⟩ := h.rc
  have k : KT W W' := KT.oth hblk (by decide) (by decide) (by decide) (by decide) g.size (fun b hb hne => gb_blk g hb hne)
  exact ⟨gb_trans h.gb g, (gb_blk g (by omega) (by omega)).trans h.dom, (gb_blk g (by omega) (by omega)).trans h.res, (gb_blk g (by omega) (by omega)).trans h.out, (gb_blk g (by omega) (by omega)).trans h.fst, r', h.rts.ki k.1.1, h.lst.ki k.1.1, OwnF.nil _ _, h.trs.kt k, h.pls.ki k.1.1, h.hB, h.hr⟩
theorem MkU.places {vp' : Value} {A' : List Int} (h : MkU B rch q vq vf v1 v2 v3 vt vp R L O T A Dc w W) (hp : SlI W A' vp') : MkU B rch q vq vf v1 v2 v3 vt vp' R L O T A' Dc w W := ⟨h.gb, h.dom, h.res, h.out, h.fst, h.rc, h.rts, h.lst, h.ops, h.trs, hp, h.hB, h.hr⟩
theorem gb_up {w W W' : World} {c B : Nat} (h : w.grownBy W (some c)) (hB : w.heap.size = B) (hb : Below B W W') : w.grownBy W' (some c) :=
  ⟨hb.os.trans h.os, hb.tape.trans h.tape, hb.output.trans h.output, Nat.le_trans h.size hb.size, fun b hx hne => (hb.block b (by omega)).trans (h.block b hx hne)⟩
theorem MkS.last {aw : Option Addr} {cw : Nat} {wl : List Int} (h : MkS n0 B rch q vq vf v1 vt R T aw cw wl Dc w W) (hl : SlI W L v2) : MkU B rch q vq vf v1 v2 (.slice none 0 0) vt (.slice none 0 0) R L [] T [] Dc w (W.setCell ⟨B + 2, 1, none⟩ v2) := by
  have hr := h.hr
  have hz := h.size
  have hne : ∀ x, x ≠ B + 2 → (W.setCell ⟨B + 2, 1, none⟩ v2).heap[x]? = W.heap[x]? := fun x hx => Below.heap_setCell _ _ _ _ hx
  have k : KT W (W.setCell ⟨B + 2, 1, none⟩ v2) := KT.oth h.out (by decide) (by decide) (by decide) (by decide) (by simp [World.setCell]) (fun b _ hx => hne b hx)
  have hb2 : Below B W (W.setCell ⟨B + 2, 1, none⟩ v2) := (Below.refl _ _).setCell (p := ⟨B + 2, 1, none⟩) (by simp) _
  exact ⟨gb_up h.gb h.hB hb2, (hne _ (by omega)).trans h.dom, (hne _ (by omega)).trans h.res, tri_arr (tri_set1 (thr_row h.out) v2), (hne _ (by omega)).trans h.fst, h.rc.blocks (by simp [World.setCell]) (hne _ (by omega)) (fun g cs f hg => k.1.1.2 g cs _ f hg (.inl rfl)), h.rts.ki k.1.1, hl.ki k.1.1, OwnF.nil _ _, h.trs.kt k, numL_nil_sl _, h.hB, h.hr⟩
where
  numL_nil_sl (w : World) : SlI w [] (.slice none 0 0) := ⟨none, 0, rfl, numL_nil w⟩
theorem MkU.app {v3' : Value} {z : OnZ} (h : MkU B rch q vq vf v1 v2 v3 vt vp R L O T A Dc w W) (ho : OwnF B W' v3' (O ++ [z])) (hb : Below B W W') (hz : W.heap.size ≤ W'.heap.size) (hns : ∀ (b : Nat) (c : Array Value) (t : TypeId) (f : Nat × Nat), W.heap[b]? = some (.cells c t f) → t ≠ 107 → W'.heap[b]? = W.heap[b]?) :
    W'.heap[B + 2]? = some (.cells #[v1, v2, v3] 36 (0, 0)) ∧ MkU B rch q vq vf v1 v2 v3' vt vp R L (O ++ [z]) T A Dc w (W'.setCell ⟨B + 2, 2, none⟩ v3') := by
  have hr := h.hr
  have hsz := h.size
  have ho2 : W'.heap[B + 2]? = some (.cells #[v1, v2, v3] 36 (0, 0)) := (hns _ _ _ _ h.out (by decide)).trans h.out
  have hne : ∀ x, x ≠ B + 2 → (W'.setCell ⟨B + 2, 2, none⟩ v3').heap[x]? = W'.heap[x]? := fun x hx => Below.heap_setCell _ _ _ _ hx
  have k : KT W' (W'.setCell ⟨B + 2, 2, none⟩ v3') := KT.oth ho2 (by decide) (by decide) (by decide) (by decide) (by simp [World.setCell]) (fun b _ hx => hne b hx)
  have hb2 : Below B W' (W'.setCell ⟨B + 2, 2, none⟩ v3') := (Below.refl _ _).setCell (p := ⟨B + 2, 2, none⟩) (by simp) _
  have ki : KI W W' := KI.notO hz hns
  have hrc : RCh q W' rch Dc := h.rc.blocks hz (hb.block _ hr) (fun g cs f hg => ki.2 g cs _ f hg (.inl rfl))
  have htr : OwnT B W' vt T := h.trs.kq ki (fun b cs f hg => hns b _ _ _ hg (by decide))
  refine ⟨ho2, ⟨gb_up (gb_up h.gb h.hB hb) h.hB hb2, (hne _ (by omega)).trans ((hns _ _ _ _ h.dom (by decide)).trans h.dom), (hne _ (by omega)).trans ((hns _ _ _ _ h.res (by decide)).trans h.res), tri_arr (tri_set2 (thr_row ho2) v3'), (hne _ (by omega)).trans ((hns _ _ _ _ h.fst (by decide)).trans h.fst), hrc.blocks (by simp [World.setCell]) (hne _ (by omega)) (fun g cs f hg => k.1.1.2 g cs _ f hg (.inl rfl)), (h.rts.ki ki).ki k.1.1, (h.lst.ki ki).ki k.1.1, ?_, htr.kt k, (h.pls.ki ki).ki k.1.1, h.hB, h.hr⟩⟩
  obtain ⟨a1, c1, e1, _⟩ := h.rts.lst
  obtain ⟨a2, c2, e2, _⟩ := h.lst
  obtain ⟨a3, c3, e3, _⟩ := h.ops.lst
  subst e1 e2 e3
  exact ho.setF ho2
/-- the struct that is handed back -/
theorem MkU.give (h : MkU B rch q vq vf v1 v2 v3 vt vp R L O T A Dc w W) : (((W.setCell ⟨B + 1, 0, none⟩ v1).setCell ⟨B + 1, 1, none⟩ v2).setCell ⟨B + 1, 2, none⟩ v3).heap[B + 1]? = some (.cells #[v1, v2, v3] 36 (0, 0)) ∧
    OwnI B (((W.setCell ⟨B + 1, 0, none⟩ v1).setCell ⟨B + 1, 1, none⟩ v2).setCell ⟨B + 1, 2, none⟩ v3) v1 R ∧
    SlI (((W.setCell ⟨B + 1, 0, none⟩ v1).setCell ⟨B + 1, 1, none⟩ v2).setCell ⟨B + 1, 2, none⟩ v3) L v2 ∧
    OwnF B (((W.setCell ⟨B + 1, 0, none⟩ v1).setCell ⟨B + 1, 1, none⟩ v2).setCell ⟨B + 1, 2, none⟩ v3) v3 O ∧
    SlI (((W.setCell ⟨B + 1, 0, none⟩ v1).setCell ⟨B + 1, 1, none⟩ v2).setCell ⟨B + 1, 2, none⟩ v3) A vp ∧
    RCh q (((W.setCell ⟨B + 1, 0, none⟩ v1).setCell ⟨B + 1, 1, none⟩ v2).setCell ⟨B + 1, 2, none⟩ v3) rch Dc ∧ w.grownBy (((W.setCell ⟨B + 1, 0, none⟩ v1).setCell ⟨B + 1, 1, none⟩ v2).setCell ⟨B + 1, 2, none⟩ v3) (some rch) := by
  have hr := h.hr
  have hsz := h.size
  have hne : ∀ x, x ≠ B + 1 → (((W.setCell ⟨B + 1, 0, none⟩ v1).setCell ⟨B + 1, 1, none⟩ v2).setCell ⟨B + 1, 2, none⟩ v3).heap[x]? = W.heap[x]? := fun x hx => by
    rw [Below.heap_setCell _ _ _ _ hx, Below.heap_setCell _ _ _ _ hx, Below.heap_setCell _ _ _ _ hx]
  have hout := tri_arr (tri_set2 (tri_set1 (tri_set0 (thr_row h.res) v1) v2) v3)
  have hzz : (((W.setCell ⟨B + 1, 0, none⟩ v1).setCell ⟨B + 1, 1, none⟩ v2).setCell ⟨B + 1, 2, none⟩ v3).heap.size = W.heap.size := by simp [World.setCell]
  have k : KT W (((W.setCell ⟨B + 1, 0, none⟩ v1).setCell ⟨B + 1, 1, none⟩ v2).setCell ⟨B + 1, 2, none⟩ v3) := KT.oth h.res (by decide) (by decide) (by decide) (by decide) (by omega) (fun b _ hx => hne b hx)
  have hb2 : Below B W (((W.setCell ⟨B + 1, 0, none⟩ v1).setCell ⟨B + 1, 1, none⟩ v2).setCell ⟨B + 1, 2, none⟩ v3) := (((Below.refl _ _).setCell (p := ⟨B + 1, 0, none⟩) (by simp) _).setCell (p := ⟨B + 1, 1, none⟩) (by simp) _).setCell (p := ⟨B + 1, 2, none⟩) (by simp) _
  refine ⟨hout, h.rts.ki k.1.1, h.lst.ki k.1.1, ?_, h.pls.ki k.1.1, h.rc.blocks (by omega) (hne _ (by omega)) (fun g cs f hg => k.1.1.2 g cs _ f hg (.inl rfl)), gb_up h.gb h.hB hb2⟩
  have h1 := h.ops.setF (i := 0) (v := v1) h.res
  obtain ⟨a1, c1, e1, _⟩ := h.rts.lst
  obtain ⟨a2, c2, e2, _⟩ := h.lst
  subst e1 e2
  have r1 := tri_arr (tri_set0 (thr_row h.res) (.slice a1 R.length c1))
  have h2 := h1.setF (i := 1) (v := .slice a2 L.length c2) r1
  have r2 := tri_arr (tri_set1 (tri_set0 (thr_row h.res) (.slice a1 R.length c1)) (.slice a2 L.length c2))
  exact h2.setF (i := 2) (v := v3) r2
end

end Go.Proofs.YtfppkjpgihnibaaGreatDoor
