/- What attestref5.Make makes. attestref5.Make: roots and trees apart. attestref5.Make: what stands on the way. attestref5.Make: its turns. attestref5.Make: what stands behind its first loop. -/
import Derived.Test.YtgcjpddpolaofahGreatFolU
import Derived.Test.YtgcjpddpolaofahGreatLawOCatches
import Derived.Test.YtgcjpddpolaofahGreatFolk
namespace Go.Proofs.YtgcjpddpolaofahGreat
open Go.RowKit

/-- the word and the chain behind so many rounds -/
def mks (q n K : Nat) (r s : Int) (word D : List Int) : Nat → List Int × List Int
  | 0 => (word, D)
  | i + 1 =>
    let W := (mks q n K r s word D i).1
    let D2 := digl q n (4 :: digl q n (3 :: ((mks q n K r s word D i).2 ++ rtf q n (prs5 q W).length (prs5 q W))))
    (Fol.foldz q (2 ^ (K - i - 1)) (sqi q r i) (sqi q s i) W (zat D2 0), D2)
/-- a round's tree and its root -/
def mkt (q n K : Nat) (r s : Int) (word D : List Int) (i : Nat) : List (List Int) := prs5 q (mks q n K r s word D i).1
def mkr (q n K : Nat) (r s : Int) (word D : List Int) (i : Nat) : List Int := rtf q n (mkt q n K r s word D i).length (mkt q n K r s word D i)
def mkR (q n K : Nat) (r s : Int) (word D : List Int) (m : Nat) : List (List Int) := (List.range m).map (mkr q n K r s word D)
def mkT (q n K : Nat) (r s : Int) (word D : List Int) (m : Nat) : List (List (List Int)) := (List.range m).map (mkt q n K r s word D)
def mkl (q n K : Nat) (r s : Int) (word D : List Int) (m : Nat) : List Int := bk q (2 ^ (K - m)) (sqi q r m) (sqi q s m) (mks q n K r s word D m).1
def mkA (q n K : Nat) (r s : Int) (word D : List Int) (m a : Nat) : List Int := ckA q n K (mkR q n K r s word D m) (mkl q n K r s word D m) D m a
def mko (q n K : Nat) (r s : Int) (word D : List Int) (m a i : Nat) : OnZ :=
  let ps := mdz (mkA q n K r s word D m a) (2 ^ (K - i - 1))
  ⟨ps, shw q (mkt q n K r s word D i) ps, ndf q n (mkt q n K r s word D i).length (mkt q n K r s word D i) ps 0⟩
def mkO (q n K : Nat) (r s : Int) (word D : List Int) (m a : Nat) : List OnZ := (List.range m).map (mko q n K r s word D m a)

theorem mks_len {q n K : Nat} {r s : Int} {word D : List Int} (hw : word.length = 2 ^ K) : ∀ i, i ≤ K → (mks q n K r s word D i).1.length = 2 ^ (K - i)
  | 0, _ => hw
  | i + 1, _ => by rw [mks, Fol.foldz_len, Nat.sub_sub]
theorem mks_fits {q n K : Nat} {r s : Int} {word D : List Int} (h3 : 3 ≤ q) (h4 : q ≤ 2147483647) (hw : Fits word) : ∀ i, Fits (mks q n K r s word D i).1
  | 0 => hw
  | i + 1 => by rw [mks]; exact foldz_fits h3 h4 _ _ _ _ _
theorem mks_dig {q n K : Nat} {r s : Int} {word D : List Int} (h3 : 3 ≤ q) (h4 : q ≤ 2147483647) (hD : Dig D) : ∀ i, Dig (mks q n K r s word D i).2
  | 0 => hD
  | i + 1 => by rw [mks]; exact dig_digl h3 h4 _ _
theorem mkt_len {q n K : Nat} {r s : Int} {word D : List Int} (hw : word.length = 2 ^ K) {i : Nat} (hi : i < K) : (mkt q n K r s word D i).length = 2 ^ (K - i - 1) := by
  rw [mkt, prs5_len, mks_len hw i (by omega), show K - i = (K - i - 1) + 1 from by omega, Nat.pow_succ]
  simp
theorem mkR_len (q n K : Nat) (r s : Int) (word D : List Int) (m : Nat) : (mkR q n K r s word D m).length = m := by simp [mkR]
theorem mkT_len (q n K : Nat) (r s : Int) (word D : List Int) (m : Nat) : (mkT q n K r s word D m).length = m := by simp [mkT]
theorem mkO_len (q n K : Nat) (r s : Int) (word D : List Int) (m a : Nat) : (mkO q n K r s word D m a).length = m := by simp [mkO]
theorem mkR_succ (q n K : Nat) (r s : Int) (word D : List Int) (m : Nat) : mkR q n K r s word D (m + 1) = mkR q n K r s word D m ++ [mkr q n K r s word D m] := by simp [mkR, List.range_succ]
theorem mkT_succ (q n K : Nat) (r s : Int) (word D : List Int) (m : Nat) : mkT q n K r s word D (m + 1) = mkT q n K r s word D m ++ [mkt q n K r s word D m] := by simp [mkT, List.range_succ]
theorem mkR_rat {q n K : Nat} {r s : Int} {word D : List Int} {m i : Nat} (h : i < m) : rat (mkR q n K r s word D m) i = mkr q n K r s word D i := by simp [rat, mkR, h]
theorem mkT_tat {q n K : Nat} {r s : Int} {word D : List Int} {m i : Nat} (h : i < m) : tat (mkT q n K r s word D m) i = mkt q n K r s word D i := by simp [tat, mkT, h]
theorem mkO_onat {q n K : Nat} {r s : Int} {word D : List Int} {m a i : Nat} (h : i < m) : onat (mkO q n K r s word D m a) i = mko q n K r s word D m a i := by simp [onat, mkO, h]
/-- the chain goes as Check's -/
theorem mks_ckD {q n K : Nat} {r s : Int} {word D : List Int} {m : Nat} : ∀ i, i ≤ m → ckD q n (mkR q n K r s word D m) D i = (mks q n K r s word D i).2
  | 0, _ => rfl
  | i + 1, h => by rw [ckD, mks_ckD i (by omega), mkR_rat (by omega), mks]; rfl
theorem mkr_len {q n K : Nat} {r s : Int} {word D : List Int} (hw : word.length = 2 ^ K) {i : Nat} (hi : i < K) : (mkr q n K r s word D i).length = 4 := by
  rw [mkr, rtf_len]
  rw [mkt_len hw hi]
  exact Nat.pow_pos (by decide)
theorem mkr_fits {q n K : Nat} {r s : Int} {word D : List Int} (h3 : 3 ≤ q) (h4 : q ≤ 2147483647) (i : Nat) : Fits (mkr q n K r s word D i) := rtf_fits h3 h4 _ _ _
theorem mkt_fits {q n K : Nat} {r s : Int} {word D : List Int} (h3 : 3 ≤ q) (h4 : q ≤ 2147483647) (i : Nat) : FitsR (mkt q n K r s word D i) := fun k hk => by
  rw [mkt, prs5_len] at hk
  rw [mkt, prs5_rat hk]
  have e1 := emod_bounds (zat (mks q n K r s word D i).1 k) q h3
  have e2 := emod_bounds (zat (mks q n K r s word D i).1 (k + (mks q n K r s word D i).1.length / 2)) q h3
  generalize zat (mks q n K r s word D i).1 k % (q : Int) = x at *
  generalize zat (mks q n K r s word D i).1 (k + (mks q n K r s word D i).1.length / 2) % (q : Int) = y at *
  refine ⟨fun j hj => ?_, by simp⟩
  have : j = 0 ∨ j = 1 := by simp at hj; omega
  rcases this with rfl | rfl
  · show -9223372036854775808 ≤ x ∧ x ≤ 9223372036854775807
    omega
  · show -9223372036854775808 ≤ y ∧ y ≤ 9223372036854775807
    omega

end Go.Proofs.YtgcjpddpolaofahGreat

namespace Go.Proofs.YtgcjpddpolaofahGreat
open Go.RowKit

/-- append(out, c), and what stays -/
theorem wpList_rowS {ops : Array Oper} {rest : List Oper} {o : Oper} {act : Act} {Q : Exit → Act → World → Prop} (W : World) (base : Nat) (hgd : o.guard = none) (s x : Operand)
    (ho : o.op = .call { callee := .builtin .append, args := #[s, x], argTypes := #[37, 37] }) (v u : Value) (rs : List (List Int)) (r : List Int)
    (hown : OwnI base W v rs) (hu : SlI W r u) (hs : act.eval s = v) (hx : act.eval x = .slice (some ⟨W.heap.size, 0, none⟩) 1 1) (hlen : rs.length + 1 ≤ 5864062014805) (hbase : base ≤ W.heap.size)
    (h : ∀ v' w2, OwnI base w2 v' (rs ++ [r]) → Below base W w2 → W.heap.size ≤ w2.heap.size → (∀ b, b < W.heap.size → v.ownBlock ≠ some b → w2.heap[b]? = W.heap[b]?) → wpList Tryz.prog ops Q rest (act.put o.dst v') w2) :
    wpList Tryz.prog ops Q (o :: rest) act (W.alloc (.cells #[u] 22)) := by
  have hbw : Below W.heap.size W (W.alloc (.cells #[u] 22)) := (Below.refl _ _).alloc (Nat.le_refl _) _
  obtain ⟨i0, hi, hz0, hz1, hz2⟩ := info_parts Tryz.infoSl
  have hown1 := hown.ki (KI.below hbw)
  have hu1 := hu.ki (KI.below hbw)
  have howb := hown1.own
  obtain ⟨vals, h1, h2⟩ := hown1
  have hvl : vals.length = rs.length := by have := h1.1; omega
  refine wpList_append_own _ hgd s x 37 ho base 22 i0 (.slice none 0 0) 1 24 Tryz.underlying37 hi hz0 hz1 hz2 rfl (by decide) _ _ _ hs h1 ⟨W.heap.size, 0, none⟩ 1 1 [u] hx rfl ?_ ?_ (by unfold maxLen; omega) (by omega) (by simp; omega) ?_
  · intro j t hj
    match j, hj with
    | 0, hj => simp at hj; subst hj; simp [Addr.add]
  · intro t ht
    obtain rfl : t = u := by simpa using ht
    exact hu.one
  · intro v' w2 hown2 hgrow _
    have hK : ∀ (g : Nat) (cs : Array Value) (f : Nat × Nat), (W.alloc (.cells #[u] 22)).heap[g]? = some (.cells cs 3 f) → w2.heap[g]? = (W.alloc (.cells #[u] 22)).heap[g]? := fun g cs f hg => by
      refine hgrow.block g (Array.getElem?_eq_some_iff.1 hg).1 (fun e => ?_)
      obtain ⟨_, c, f', h3⟩ := howb g e.symm
      rw [hg] at h3
      injection h3 with h3
      injection h3 with _ h4 _
      exact absurd h4 (by decide)
    have hkS : ∀ {r : List Int} {v : Value}, SlI (W.alloc (.cells #[u] 22)) r v → SlI w2 r v := fun hh => by
      obtain ⟨a, c, e1, e2⟩ := hh
      exact ⟨a, c, e1, e2.blocks hgrow.size hK⟩
    have hsz : W.heap.size ≤ w2.heap.size := by have := hgrow.size; simp at this; omega
    refine h v' w2 ⟨vals ++ [u], by rw [List.length_append]; exact hown2, fun j hj => ?_⟩ ((hbw.mono hbase).trans ((Below.refl base _).grown hgrow (by simp; omega) (fun k hk => (howb k hk).1))) hsz (fun b hb hne => ?_)
    · rw [List.length_append] at hj
      rw [rat_app rs [r] j]
      by_cases hjr : j < rs.length
      · rw [if_pos hjr, List.getElem?_append_left (by omega)]
        obtain ⟨u', e1, e2⟩ := h2 j hjr
        exact ⟨u', e1, hkS e2⟩
      · obtain rfl : j = rs.length := by simp at hj; omega
        rw [if_neg hjr, List.getElem?_append_right (by omega), hvl, Nat.sub_self]
        exact ⟨u, rfl, hkS hu1⟩
    · have e := hbw.block b hb
      exact (hgrow.block b (by simp; omega) (fun e => hne e.symm)).trans e

/-- rows of unlike widths lie apart -/
theorem OwnI.sep {b b' : Nat} {w : World} {v u : Value} {rs ts : List (List Int)} (h : OwnI b w v rs) (k : OwnI b' w u ts) (h0 : 0 < rs.length) (k0 : 0 < ts.length) (hne : (rat rs 0).length ≠ (rat ts 0).length) : ∀ g, v.ownBlock = some g → u.ownBlock ≠ some g := fun g hg hu => by
  obtain ⟨vals, h1, h2⟩ := h
  obtain ⟨uals, k1, k2⟩ := k
  obtain ⟨x, x1, a, c, rfl, _⟩ := h2 0 h0
  obtain ⟨y, y1, a', c', rfl, _⟩ := k2 0 k0
  rcases h1.2 with ⟨rfl, _⟩ | ⟨g1, cap, cur, rfl, _⟩
  · cases hg
  · rcases k1.2 with ⟨rfl, _⟩ | ⟨g2, cap', cur', rfl, _⟩
    · cases hu
    · simp [Value.ownBlock] at hg hu
      subst hg
      subst hu
      have e1 := h1.cellAt 0 (by omega)
      have e2 := k1.cellAt 0 (by omega)
      rw [x1] at e1
      rw [y1, e1] at e2
      injection e2 with e2
      injection e2 with _ e3 _
      exact hne e3
/-- a turn of one block of lists leaves rows that lie apart from it -/
theorem OwnI.apart {base : Nat} {w w' : World} {u v : Value} {ts : List (List Int)} (h : OwnI base w u ts) (hs : w.heap.size ≤ w'.heap.size) (hv : ∀ g, v.ownBlock = some g → ∃ c f, w.heap[g]? = some (.cells c 22 f)) (hne : ∀ g, v.ownBlock = some g → u.ownBlock ≠ some g) (e : ∀ b, b < w.heap.size → v.ownBlock ≠ some b → w'.heap[b]? = w.heap[b]?) : OwnI base w' u ts := by
  obtain ⟨vals, h1, h2⟩ := h
  refine ⟨vals, ⟨h1.1, ?_⟩, fun j hj => ?_⟩
  · rcases h1.2 with hn | ⟨g, cap, cur, rfl, hb, hg, rest⟩
    · exact .inl hn
    · exact .inr ⟨g, cap, cur, rfl, hb, (e g (Array.getElem?_eq_some_iff.1 hg).1 (fun hh => hne g hh rfl)).trans hg, rest⟩
  · obtain ⟨x, x1, a, c, x2, x3⟩ := h2 j hj
    refine ⟨x, x1, a, c, x2, x3.blocks hs (fun g cs f hg => e g (Array.getElem?_eq_some_iff.1 hg).1 (fun hh => ?_))⟩
    obtain ⟨c', f', h5⟩ := hv g hh
    rw [hg] at h5
    injection h5 with h5
    injection h5 with _ h6 _
    exact absurd h6 (by decide)
/-- a root more leaves the trees -/
theorem OwnT.roots {base b' : Nat} {w w' : World} {v vt : Value} {rs : List (List Int)} {ts : List (List (List Int))} (h : OwnT base w vt ts) (hr : OwnI b' w v rs) (h0 : rs = [] → v.ownBlock = none) (h4 : ∀ j, j < rs.length → (rat rs j).length = 4) (h2 : ∀ j, j < ts.length → 0 < (tat ts j).length ∧ (rat (tat ts j) 0).length = 2) (hs : w.heap.size ≤ w'.heap.size) (e : ∀ b, b < w.heap.size → v.ownBlock ≠ some b → w'.heap[b]? = w.heap[b]?) : OwnT base w' vt ts := by
  obtain ⟨vals, h1, h3⟩ := h
  have hv := fun g hg => (hr.own g hg).2
  refine ⟨vals, ⟨h1.1, ?_⟩, fun j hj => ?_⟩
  · rcases h1.2 with hn | ⟨g, cap, cur, rfl, hb, hg, rest⟩
    · exact .inl hn
    · refine .inr ⟨g, cap, cur, rfl, hb, (e g (Array.getElem?_eq_some_iff.1 hg).1 (fun hh => ?_)).trans hg, rest⟩
      obtain ⟨c', f', h5⟩ := hv g hh
      rw [hg] at h5
      injection h5 with h5
      injection h5 with _ h6 _
      exact absurd h6 (by decide)
  · obtain ⟨u, e1, e2⟩ := h3 j hj
    refine ⟨u, e1, e2.apart hs hv (fun g hg => ?_) e⟩
    by_cases hn : rs = []
    · rw [h0 hn] at hg; cases hg
    · have hp : 0 < rs.length := List.length_pos_iff.2 hn
      exact hr.sep e2 hp (h2 j hj).1 (by rw [h4 0 hp, (h2 j hj).2]; decide) g hg

end Go.Proofs.YtgcjpddpolaofahGreat

namespace Go.Proofs.YtgcjpddpolaofahGreat
open Go.RowKit

/-- the word: the given one, below the chain; or one of the call's own -/
def WdAt (n0 : Nat) (W : World) (a : Option Addr) (c : Nat) (l : List Int) : Prop := Lst n0 W a c l ∨ NumL W a c l
theorem WdAt.kept {n0 : Nat} {W W' : World} {a : Option Addr} {c : Nat} {l : List Int} (h : WdAt n0 W a c l) (k : KI W W') (b : Below n0 W W') : WdAt n0 W' a c l := by
  rcases h with h | h
  · exact Or.inl (h.below b)
  · exact Or.inr (h.ki k)
theorem WdAt.row {n0 : Nat} {W : World} {a : Option Addr} {c : Nat} {l : List Int} (h : WdAt n0 W a c l) (hn : n0 ≤ W.heap.size) : RowB W.heap.size W a l := by
  rcases h with h | h
  · exact (h.mono hn).row
  · exact h.1.row

end Go.Proofs.YtgcjpddpolaofahGreat

namespace Go.Proofs.YtgcjpddpolaofahGreat
open Go.RowKit

end Go.Proofs.YtgcjpddpolaofahGreat

namespace Go.Proofs.YtgcjpddpolaofahGreat
open Go.RowKit

theorem OwnT.kq {base : Nat} {w w' : World} {v : Value} {ts : List (List (List Int))} (h : OwnT base w v ts) (k : KI w w') (e : ∀ (b : Nat) (cs : Array Value) (f : Nat × Nat), w.heap[b]? = some (.cells cs 37 f) → w'.heap[b]? = w.heap[b]?) : OwnT base w' v ts := by
  obtain ⟨vals, h1, h2⟩ := h
  refine ⟨vals, ⟨h1.1, ?_⟩, fun j hj => ?_⟩
  · rcases h1.2 with hn | ⟨g, cap, cur, rfl, hb, hg, rest⟩
    · exact .inl hn
    · exact .inr ⟨g, cap, cur, rfl, hb, (e g _ _ hg).trans hg, rest⟩
  · obtain ⟨u, e1, e2⟩ := h2 j hj
    exact ⟨u, e1, e2.ki k⟩
theorem gb_up {w W W' : World} {c B : Nat} (h : w.grownBy W (some c)) (hB : w.heap.size = B) (hb : Below B W W') : w.grownBy W' (some c) :=
  ⟨hb.os.trans h.os, hb.tape.trans h.tape, hb.output.trans h.output, Nat.le_trans h.size hb.size, fun b hx hne => (hb.block b (by omega)).trans (h.block b hx hne)⟩
end Go.Proofs.YtgcjpddpolaofahGreat
