/- Rows of rows that a call owns; attestsame.Copied, Rows. attestref3, the trees: Nodes. attestref3, the trees: Once. attestref5.Open. attestref3, the trees: Climb's Up. attestref3, the trees: Climb's Up: what lacks. attestref3, the trees: Climb's Up: a node of another length. attestref3, the trees: Climb's Up: a node is taken. attestref3, the trees: Climb's Up: a row that is shown. attestref3, the trees: Climb's Up: the tree of what is shown. attestref3: Check. Trees, plain facts: what is opened is taken. -/
import Derived.Test.YtpgnabmkfkcogaaGreatDoorRefs
import Derived.Test.YtpgnabmkfkcogaaGreatDoorSpgs
import Derived.Deep.Onto
import Derived.OneCell
import Derived.Test.YtpgnabmkfkcogaaGreatDoorGxAB
import Derived.StillTailTactics
namespace Go.Proofs.YtpgnabmkfkcogaaGreatDoor
open Go.RowKit

/-- a block that is no row of lists or of rows, no Opening, no Folded and no chain of either side -/
def NotRow (w : World) (b : Nat) : Prop := ∃ c t f, w.heap[b]? = some (.cells c t f) ∧ t ≠ 23 ∧ t ≠ 49 ∧ t ≠ 118 ∧ t ≠ 61 ∧ t ≠ 22 ∧ t ≠ 446
/-- a list -/
def SlR (w : World) (r : List Int) (v : Value) : Prop := ∃ a c, v = .slice a r.length c ∧ Lst w.heap.size w a c r ∧ (0 < r.length → ∃ b o, a = some ⟨b, o, none⟩ ∧ NotRow w b)
theorem SlR.blocks {w w' : World} {r : List Int} {v : Value} (h : SlR w r v) (hs : w.heap.size ≤ w'.heap.size) (e : ∀ b, b < w.heap.size → NotRow w b → w'.heap[b]? = w.heap[b]?) : SlR w' r v := by
  obtain ⟨a, c, rfl, hl, hn⟩ := h
  refine ⟨a, c, rfl, ⟨fun k hk => ?_, hl.room, hl.nil⟩, fun h0 => ?_⟩
  · obtain ⟨b, o, rfl, h2, h3⟩ := hl.row k hk
    obtain ⟨b', o', e1, hb⟩ := hn (by omega)
    cases e1
    exact ⟨b, o, rfl, by omega, (World.cell?_of_block (w := w) (a := ⟨b, o + k, none⟩) (e b h2 hb)).trans h3⟩
  · obtain ⟨b, o, rfl, hb⟩ := hn h0
    obtain ⟨b', o', e1, h2, _⟩ := hl.row 0 h0
    cases e1
    obtain ⟨c', t, f, h3, h4⟩ := hb
    exact ⟨b, o, rfl, c', t, f, (e b h2 ⟨c', t, f, h3, h4⟩).trans h3, h4⟩
theorem SlR.keep {w w' : World} {r : List Int} {v : Value} (h : SlR w r v) (e : Below w.heap.size w w') : SlR w' r v := h.blocks e.size (fun b hb _ => e.block b hb)
theorem SlR.one {w : World} {r : List Int} {v : Value} (h : SlR w r v) : v.oneCell' = true := by obtain ⟨a, c, rfl, _⟩ := h; rfl
theorem SlR.lst {w : World} {r : List Int} {v : Value} (h : SlR w r v) : ∃ a c, v = .slice a r.length c ∧ Lst w.heap.size w a c r := by obtain ⟨a, c, h1, h2, _⟩ := h; exact ⟨a, c, h1, h2⟩
theorem slr_of_owns {w : World} {base : Nat} {v : Value} {zs : List Int} (h : w.ownsRow base 3 1 v zs.length (zs.map (Value.int .i64))) : SlR w zs v := by
  obtain ⟨a, c, rfl, hl⟩ := lst_of_owns h
  refine ⟨a, c, rfl, hl, fun h0 => ?_⟩
  rcases h.2 with ⟨_, h1⟩ | ⟨g, cap, cur, hv, _, hg, _⟩
  · omega
  · injection hv with e1 _ _
    exact ⟨g, 0, e1, cur, 3, (0, 0), hg, by decide, by decide, by decide, by decide, by decide, by decide⟩

/-- rows of rows of the call's own -/
def OwnR (base : Nat) (w : World) (v : Value) (rs : List (List Int)) : Prop := ∃ vals : List Value, w.ownsRow base 23 1 v rs.length vals ∧ ∀ j, j < rs.length → ∃ u, vals[j]? = some u ∧ SlR w (rat rs j) u
theorem gb_of_below {w w' : World} (e : Below w.heap.size w w') : w.grownBy w' none := ⟨e.os, e.tape, e.output, e.size, fun k hk _ => e.block k hk⟩
theorem OwnR.keep {base : Nat} {w w' : World} {v : Value} {rs : List (List Int)} (h : OwnR base w v rs) (e : Below w.heap.size w w') : OwnR base w' v rs := by
  obtain ⟨vals, h1, h2⟩ := h
  refine ⟨vals, h1.kept (gb_of_below e) ?_, fun j hj => ?_⟩
  · cases v.ownBlock with
    | none => exact .inl rfl
    | some k => exact .inr (by simp)
  · obtain ⟨u, h3, h4⟩ := h2 j hj
    exact ⟨u, h3, h4.keep e⟩
theorem OwnR.nil (base : Nat) (w : World) : OwnR base w (.slice none 0 0) [] := ⟨[], World.ownsRow_nil _ _ _ _, fun j hj => by simp at hj⟩
theorem OwnR.lst {base : Nat} {w : World} {v : Value} {rs : List (List Int)} (h : OwnR base w v rs) : ∃ a c, v = .slice a rs.length c ∧ LstR w.heap.size w a c rs := by
  obtain ⟨vals, h1, h2⟩ := h
  rcases h1.2 with ⟨rfl, h0⟩ | ⟨g, cap, cur, rfl, hb, hg, hn, hm, hs, ht⟩
  · exact ⟨none, 0, by rw [h0], fun k hk => by omega, by omega, fun _ => rfl⟩
  · refine ⟨some ⟨g, 0, none⟩, cap, rfl, fun k hk => ?_, hn, fun e => by cases e⟩
    obtain ⟨u, h3, h4⟩ := h2 k hk
    obtain ⟨a, c, rfl, hl⟩ := h4.lst
    refine ⟨g, 0, a, c, rfl, (Array.getElem?_eq_some_iff.1 hg).1, ?_, hl⟩
    rw [Nat.zero_add, h1.cellAt k (by omega), h3]
theorem OwnR.mono {base base' : Nat} {w : World} {v : Value} {rs : List (List Int)} (h : OwnR base w v rs) (e : base' ≤ base) : OwnR base' w v rs := by
  obtain ⟨vals, h1, h2⟩ := h
  exact ⟨vals, World.ownsRow.mono h1 e, h2⟩
theorem OwnR.len {base : Nat} {w : World} {v : Value} {rs : List (List Int)} (h : OwnR base w v rs) : lenV v = rs.length := by obtain ⟨a, c, rfl, _⟩ := h.lst; rfl
theorem OwnR.own {base : Nat} {w : World} {v : Value} {rs : List (List Int)} (h : OwnR base w v rs) : ∀ k, v.ownBlock = some k → base ≤ k ∧ k < w.heap.size ∧ ¬ NotRow w k := fun k hk => by
  obtain ⟨vals, h1, _⟩ := h
  refine ⟨(h1.lt k hk).1, (h1.lt k hk).2, ?_⟩
  rintro ⟨c, t, f, h3, h4⟩
  rcases h1.2 with ⟨rfl, _⟩ | ⟨g, cap, cur, rfl, hb, hg, _⟩
  · cases hk
  · cases hk
    rw [hg] at h3
    cases h3
    exact h4.1 rfl

/-- a store into an Opening turns no list -/
theorem blk_setO {w : World} {O i : Nat} {v : Value} {b : Nat} (hO : ∃ c f, w.heap[O]? = some (.cells c 49 f)) (hb : NotRow w b) : (w.setCell ⟨O, i, none⟩ v).heap[b]? = w.heap[b]? := by
  refine Below.heap_setCell _ _ _ _ ?_
  rintro rfl
  obtain ⟨c, f, h1⟩ := hO
  obtain ⟨c', t, f', h2, h3⟩ := hb
  rw [h1] at h2
  cases h2
  exact h3.2.1 rfl
theorem SlR.setO {w : World} {O i : Nat} {v u : Value} {r : List Int} (h : SlR w r u) (hO : ∃ c f, w.heap[O]? = some (.cells c 49 f)) : SlR (w.setCell ⟨O, i, none⟩ v) r u :=
  h.blocks (by simp [World.setCell]) (fun _ _ hb => blk_setO hO hb)
theorem OwnR.setO {base : Nat} {w : World} {O i : Nat} {v u : Value} {rs : List (List Int)} (h : OwnR base w u rs) (hO : ∃ c f, w.heap[O]? = some (.cells c 49 f)) : OwnR base (w.setCell ⟨O, i, none⟩ v) u rs := by
  obtain ⟨vals, h1, h2⟩ := h
  refine ⟨vals, ?_, fun j hj => ?_⟩
  · refine ownsRow_setCell_other h1 (fun e => ?_) v
    rcases h1.2 with ⟨rfl, _⟩ | ⟨g, cap, cur, rfl, _, hg, _⟩
    · cases e
    · cases e
      obtain ⟨c, f, h3⟩ := hO
      rw [hg] at h3
      injection h3 with h3
      injection h3 with _ h3 _
      exact absurd h3 (by decide)
  · obtain ⟨x, h3, h4⟩ := h2 j hj
    exact ⟨x, h3, h4.setO hO⟩

theorem rat_app (rs ts : List (List Int)) (j : Nat) : rat (rs ++ ts) j = if j < rs.length then rat rs j else rat ts (j - rs.length) := by
  unfold rat
  by_cases h : j < rs.length
  · rw [if_pos h]; simp [List.getElem?_append_left h]
  · rw [if_neg h]; simp [List.getElem?_append_right (show rs.length ≤ j by omega)]

/-- append(out, l...) where out is the call's own -/
theorem wpList_rows {ops : Array Oper} {rest : List Oper} {o : Oper} {act : Act} {Q : Exit → Act → World → Prop} (W : World) (base : Nat) (hgd : o.guard = none) (s x : Operand)
    (ho : o.op = .call { callee := .builtin .append, args := #[s, x], argTypes := #[22, 22] }) (v : Value) (rs ts : List (List Int))
    (hown : OwnR base W v rs) (hs : act.eval s = v) (ad : Addr) (m cap : Nat) (hm : m = ts.length) (hx : act.eval x = .slice (some ad) m cap) (us : List Value) (hul : us.length = ts.length) (huc : ∀ j u, us[j]? = some u → W.cell? (ad.add j) = some u)
    (hus : ∀ j, j < ts.length → ∃ u, us[j]? = some u ∧ SlR W (rat ts j) u) (hlen : rs.length + ts.length ≤ 5864062014805) (hbase : base ≤ W.heap.size)
    (h : ∀ v' w2, OwnR base w2 v' (rs ++ ts) → Below base W w2 → (∀ b, b < W.heap.size → NotRow W b → w2.heap[b]? = W.heap[b]?) → wpList Tryz.prog ops Q rest (act.put o.dst v') w2) :
    wpList Tryz.prog ops Q (o :: rest) act W := by
  subst hm
  obtain ⟨i0, hi, hz0, hz1, hz2⟩ := info_parts Tryz.infoSl
  have howb := hown.own
  obtain ⟨vals, h1, h2⟩ := hown
  have hvl : vals.length = rs.length := by have := h1.1; omega
  refine wpList_append_own _ hgd s x 22 ho base 23 i0 (.slice none 0 0) 1 24 Tryz.underlying22 hi hz0 hz1 hz2 rfl (by decide) _ _ _ hs h1 ad ts.length cap us hx (by omega) huc ?_ (by unfold maxLen; omega) (by omega) hbase ?_
  · intro t ht
    obtain ⟨j, hj, rfl⟩ := List.getElem_of_mem ht
    obtain ⟨u, e1, e2⟩ := hus j (by omega)
    rw [List.getElem?_eq_getElem hj] at e1
    cases e1
    exact e2.one
  · intro v' w2 hown2 hgrow _
    have hB : Below base W w2 := (Below.refl base W).grown hgrow hbase (fun k hk => (howb k hk).1)
    have hN : ∀ b, b < W.heap.size → NotRow W b → w2.heap[b]? = W.heap[b]? := fun b hb hn => hgrow.block b hb (fun e => (howb b e.symm).2.2 hn)
    refine h v' w2 ⟨vals ++ us, by rw [List.length_append]; exact hown2, fun j hj => ?_⟩ hB hN
    rw [List.length_append] at hj
    rw [rat_app rs ts j]
    by_cases hjr : j < rs.length
    · rw [if_pos hjr, List.getElem?_append_left (by omega)]
      obtain ⟨u, e1, e2⟩ := h2 j hjr
      exact ⟨u, e1, e2.blocks hgrow.size hN⟩
    · rw [if_neg hjr, List.getElem?_append_right (by omega), hvl]
      obtain ⟨u, e1, e2⟩ := hus (j - rs.length) (by omega)
      exact ⟨u, e1, e2.blocks hgrow.size hN⟩

/-- append(out, c) -/
theorem wpList_row1 {ops : Array Oper} {rest : List Oper} {o : Oper} {act : Act} {Q : Exit → Act → World → Prop} (W : World) (base : Nat) (hgd : o.guard = none) (s x : Operand)
    (ho : o.op = .call { callee := .builtin .append, args := #[s, x], argTypes := #[22, 22] }) (v u : Value) (rs : List (List Int)) (r : List Int)
    (hown : OwnR base W v rs) (hu : SlR W r u) (hs : act.eval s = v) (hx : act.eval x = .slice (some ⟨W.heap.size, 0, none⟩) 1 1) (hlen : rs.length + 1 ≤ 5864062014805) (hbase : base ≤ W.heap.size)
    (h : ∀ v' w2, OwnR base w2 v' (rs ++ [r]) → Below base W w2 → (∀ b, b < W.heap.size → NotRow W b → w2.heap[b]? = W.heap[b]?) → wpList Tryz.prog ops Q rest (act.put o.dst v') w2) :
    wpList Tryz.prog ops Q (o :: rest) act (W.alloc (.cells #[u] 23)) := by
  have hbw : Below W.heap.size W (W.alloc (.cells #[u] 23)) := (Below.refl _ _).alloc (Nat.le_refl _) _
  refine wpList_rows (W.alloc (.cells #[u] 23)) base hgd s x ho v rs [r] (hown.keep hbw) hs ⟨W.heap.size, 0, none⟩ 1 1 rfl hx [u] rfl ?_ ?_ hlen (by simp; omega) ?_
  · intro j t hj
    match j, hj with
    | 0, hj => simp at hj; subst hj; simp [Addr.add]
  · intro j hj
    obtain rfl : j = 0 := by simp at hj; exact hj
    exact ⟨u, rfl, hu.keep hbw⟩
  · intro v' w2 h1 h2 h3
    refine h v' w2 h1 ((hbw.mono hbase).trans h2) (fun b hb hn => ?_)
    have e := hbw.block b hb
    obtain ⟨c, t, f, h4, h5⟩ := hn
    exact (h3 b (by simp; omega) ⟨c, t, f, e.trans h4, h5⟩).trans e

theorem take_succ_rat {rows : List (List Int)} {k : Nat} (h : k < rows.length) : rows.take (k + 1) = rows.take k ++ [rat rows k] := by
  rw [List.take_add_one, List.getElem?_eq_getElem h]
  simp [rat, h]

end Go.Proofs.YtpgnabmkfkcogaaGreatDoor

namespace Go.Proofs.YtpgnabmkfkcogaaGreatDoor
open Go.RowKit

/-- what stands for all that is not shown, with fuel -/
def ndf (q n : Nat) : Nat → List (List Int) → List Int → Int → List (List Int)
  | 0, _, _, _ => []
  | k + 1, rows, ps, first => if smb ps first (first + (rows.length : Int)) = false then [rtf q n (k + 1) rows] else if rows.length = 1 then [] else
    ndf q n k (rows.take (lft rows.length)) ps first ++ ndf q n k (rows.drop (lft rows.length)) ps (first + ((lft rows.length : Nat) : Int))
end Go.Proofs.YtpgnabmkfkcogaaGreatDoor

namespace Go.Proofs.YtpgnabmkfkcogaaGreatDoor
open Go.RowKit

attribute [local irreducible] wpStill

end Go.Proofs.YtpgnabmkfkcogaaGreatDoor

namespace Go.Proofs.YtpgnabmkfkcogaaGreatDoor
open Go.RowKit

/-- three cells -/
def tri (a b c : Value) : Nat → Value
  | 0 => a
  | 1 => b
  | _ => c
theorem tri_new (w : World) (t : TypeId) (a b c : Value) : (w.alloc (.cells #[a, b, c] t)).rowIs w.heap.size t 3 (tri a b c) :=
  ⟨#[a, b, c], heap_alloc_new w _, rfl, fun i hi => by
    have : i = 0 ∨ i = 1 ∨ i = 2 := by omega
    rcases this with rfl | rfl | rfl <;> rfl⟩
theorem tri_arr {W : World} {g : Nat} {t : TypeId} {a b c : Value} (h : W.rowIs g t 3 (tri a b c)) : W.heap[g]? = some (.cells #[a, b, c] t (0, 0)) := by
  obtain ⟨cs, h1, h2, h4⟩ := h
  rw [h1]
  have e : cs = #[a, b, c] := by
    apply Array.ext
    · simpa using h2
    · intro i hi hi2
      have h0 : i = 0 ∨ i = 1 ∨ i = 2 := by simp at hi2; omega
      have h5 := h4 i (by omega)
      rw [Array.getElem?_eq_getElem hi] at h5
      have h6 := Option.some.inj h5
      rw [h6]
      rcases h0 with rfl | rfl | rfl <;> rfl
  rw [e]
theorem tri_set1 {W : World} {g : Nat} {t : TypeId} {a b c : Value} (h : W.rowIs g t 3 (tri a b c)) (b' : Value) : (W.setCell ⟨g, 1, none⟩ b').rowIs g t 3 (tri a b' c) :=
  (h.set 1 b').congr (fun i hi => by
    have : i = 0 ∨ i = 1 ∨ i = 2 := by omega
    rcases this with rfl | rfl | rfl <;> simp [tri])
theorem tri_set0 {W : World} {g : Nat} {t : TypeId} {a b c : Value} (h : W.rowIs g t 3 (tri a b c)) (a' : Value) : (W.setCell ⟨g, 0, none⟩ a').rowIs g t 3 (tri a' b c) :=
  (h.set 0 a').congr (fun i hi => by
    have : i = 0 ∨ i = 1 ∨ i = 2 := by omega
    rcases this with rfl | rfl | rfl <;> simp [tri])
theorem tri_set2 {W : World} {g : Nat} {t : TypeId} {a b c : Value} (h : W.rowIs g t 3 (tri a b c)) (c' : Value) : (W.setCell ⟨g, 2, none⟩ c').rowIs g t 3 (tri a b c') :=
  (h.set 2 c').congr (fun i hi => by
    have : i = 0 ∨ i = 1 ∨ i = 2 := by omega
    rcases this with rfl | rfl | rfl <;> simp [tri])

/-- a list's elements -/
def elr (q : Nat) (r : List Int) : List Int := ls (fun j => zat r j % (q : Int)) r.length
/-- the rows that are shown -/
def shw (q : Nat) (rows : List (List Int)) (os : List Int) : List (List Int) := os.map (fun x => elr q (rat rows x.toNat))
theorem shw_len (q : Nat) (rows : List (List Int)) (os : List Int) : (shw q rows os).length = os.length := by simp [shw]
theorem shw_snoc (q : Nat) (rows : List (List Int)) {os : List Int} {k : Nat} (h : k < os.length) : shw q rows (os.take (k + 1)) = shw q rows (os.take k) ++ [elr q (rat rows (zat os k).toNat)] := by
  unfold shw
  rw [List.take_add_one, List.getElem?_eq_getElem h, List.map_append]
  simp [zat, h]

theorem rowO {w : World} {O : Nat} {f : Nat → Value} {n : Nat} (h : w.rowIs O 49 n f) : ∃ c fr, w.heap[O]? = some (.cells c 49 fr) := by
  obtain ⟨c, h1, _⟩ := h
  exact ⟨c, _, h1⟩

/-- an Opening alone has turned -/
theorem ne_O {w : World} {O b : Nat} (hO : ∃ c f, w.heap[O]? = some (.cells c 49 f)) (hb : NotRow w b) : b ≠ O := by
  rintro rfl
  obtain ⟨c, f, h1⟩ := hO
  obtain ⟨c', t, f', h2, h3⟩ := hb
  rw [h1] at h2
  cases h2
  exact h3.2.1 rfl
end Go.Proofs.YtpgnabmkfkcogaaGreatDoor

namespace Go.Proofs.YtpgnabmkfkcogaaGreatDoor
open Go.RowKit

theorem LstD.gb {w w' : World} {g N C : Nat} {l : List Int} (h : LstD w g N l) (e : w.grownBy w' (some C)) (hne : g ≠ C) : LstD w' g N l := by
  obtain ⟨h1, c, f, h2⟩ := h
  have hg : g < w.heap.size := (Array.getElem?_eq_some_iff.1 h2).1
  have hb := gb_blk e hg hne
  refine ⟨⟨fun k hk => ?_, h1.room, h1.nil⟩, c, f, hb.trans h2⟩
  obtain ⟨b, o, e1, e2, e3⟩ := h1.row k hk
  cases e1
  exact ⟨g, 0, rfl, Nat.lt_of_lt_of_le hg e.size, (World.cell?_of_block (w := w) (a := ⟨g, 0 + k, none⟩) hb).trans e3⟩

end Go.Proofs.YtpgnabmkfkcogaaGreatDoor

namespace Go.Proofs.YtpgnabmkfkcogaaGreatDoor
open Go.RowKit

attribute [local irreducible] wpStill

end Go.Proofs.YtpgnabmkfkcogaaGreatDoor

namespace Go.Proofs.YtpgnabmkfkcogaaGreatDoor
open Go.RowKit

attribute [local irreducible] wpStill

end Go.Proofs.YtpgnabmkfkcogaaGreatDoor

namespace Go.Proofs.YtpgnabmkfkcogaaGreatDoor
open Go.RowKit

attribute [local irreducible] wpStill

end Go.Proofs.YtpgnabmkfkcogaaGreatDoor

namespace Go.Proofs.YtpgnabmkfkcogaaGreatDoor
open Go.RowKit

attribute [local irreducible] wpStill

end Go.Proofs.YtpgnabmkfkcogaaGreatDoor

namespace Go.Proofs.YtpgnabmkfkcogaaGreatDoor
open Go.RowKit

attribute [local irreducible] wpStill

end Go.Proofs.YtpgnabmkfkcogaaGreatDoor

namespace Go.Proofs.YtpgnabmkfkcogaaGreatDoor
open Go.RowKit

/-- places ascending below N -/
def AscN (N : Int) (ps : List Int) : Prop := ∀ j, j < ps.length → 0 ≤ zat ps j ∧ zat ps j < N ∧ (0 < j → zat ps (j - 1) < zat ps j)
instance (N : Int) (ps : List Int) : Decidable (AscN N ps) := by unfold AscN; infer_instance

attribute [local irreducible] wpStill

end Go.Proofs.YtpgnabmkfkcogaaGreatDoor

namespace Go.Proofs.YtpgnabmkfkcogaaGreatDoor
open Go.RowKit

theorem ls_cong {f g : Nat → Int} {n : Nat} (h : ∀ j, j < n → f j = g j) : ls f n = ls g n := by
  unfold ls
  exact List.map_congr_left (fun j hj => h j (List.mem_range.1 hj))
theorem elr_digl {q : Nat} (h3 : 3 ≤ q) (n : Nat) (l : List Int) : elr q (digl q n l) = digl q n l := by
  unfold elr
  rw [digl_len]
  unfold digl
  refine ls_cong fun j hj => ?_
  rw [ls_at _ _ _ hj]
  have := hst_bounds q n (pdf q (zat l) l.length) (l.length / 4 + 1) j h3
  exact Int.emod_eq_of_lt this.1 this.2
theorem elr_rtf {q : Nat} (h3 : 3 ≤ q) (n k : Nat) (rows : List (List Int)) (hk : 1 ≤ k) : elr q (rtf q n k rows) = rtf q n k rows := by
  cases k with
  | zero => omega
  | succ k => simp only [rtf]; split <;> exact elr_digl h3 _ _
/-! ## alike as elements -/
end Go.Proofs.YtpgnabmkfkcogaaGreatDoor
