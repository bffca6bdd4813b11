/- Package fold: pairs; rows as they are and as elements. Package fold: made: what stands on the way. Package fold: made: a round's appends. Package fold: made: what stands behind its first loop. Package fold: made: its first loop. Package fold: Make. -/
import Derived.Test.YtfppkjpgihnibaaGreatDoorFogz
import Derived.Test.YtfppkjpgihnibaaGreatDoorFolU
import Derived.Test.YtfppkjpgihnibaaGreatDoorTrhq
import Derived.Test.YtfppkjpgihnibaaGreatDoorFolz
import Derived.Test.YtfppkjpgihnibaaGreatDoorFogs
import Derived.Test.YtfppkjpgihnibaaGreatDoorFogS
import Derived.Test.YtfppkjpgihnibaaGreatDoorCodB
import Derived.Test.YtfppkjpgihnibaaGreatDoorChnz
namespace Go.Proofs.YtfppkjpgihnibaaGreatDoor
open Go.RowKit

/-- the rows of a round's tree, as the program makes them -/
def prsr (word : List Int) : List (List Int) := (List.range (word.length / 2)).map (fun i => [zat word i, zat word (i + word.length / 2)])
theorem prsr_len (word : List Int) : (prsr word).length = word.length / 2 := by simp [prsr]
theorem prsr_rat {word : List Int} {i : Nat} (h : i < word.length / 2) : rat (prsr word) i = [zat word i, zat word (i + word.length / 2)] := by simp [rat, prsr, h]
theorem prsr_elr {q : Nat} {word : List Int} {i : Nat} (h : i < word.length / 2) : elr q (rat (prsr word) i) = rat (prs5 q word) i := by
  rw [prsr_rat h, prs5_rat h, elr_map]
  rfl
theorem prsr_fits {word : List Int} (hf : Fits word) : ∀ k, k < (prsr word).length → Fits (rat (prsr word) k) := fun k hk => by
  rw [prsr_len] at hk
  rw [prsr_rat hk]
  exact fits_cons (hf.all _) (fits_one (hf.all _))

theorem rat_elr (q : Nat) (rows : List (List Int)) (i : Nat) : rat (rows.map (elr q)) i = elr q (rat rows i) := by
  rcases Nat.lt_or_ge i rows.length with g | g
  · simp [rat, g]
  · simp [rat, Nat.not_lt.2 g, elr, ls]
theorem prsr_map (q : Nat) (word : List Int) : (prsr word).map (elr q) = prs5 q word := by
  refine List.ext_getElem (by simp [prsr, prs5]) (fun i h1 h2 => ?_)
  have hi : i < word.length / 2 := by simpa [prs5] using h2
  have h3 := prsr_elr (q := q) hi
  simpa [rat, prsr, prs5, hi] using h3
/-- a digest sees elements alone -/
theorem rtf_elr {q : Nat} (n : Nat) : ∀ (k : Nat) (rows : List (List Int)), rtf q n k (rows.map (elr q)) = rtf q n k rows
  | 0, _ => rfl
  | k + 1, rows => by
    simp only [rtf, List.length_map]
    split
    · rw [rat_elr, leaf_elr]
    · rw [← List.map_take, ← List.map_drop, rtf_elr n k, rtf_elr n k]
theorem ndf_elr {q : Nat} (n : Nat) : ∀ (k : Nat) (rows : List (List Int)) (ps : List Int) (first : Int), ndf q n k (rows.map (elr q)) ps first = ndf q n k rows ps first
  | 0, _, _, _ => rfl
  | k + 1, rows, ps, first => by
    simp only [ndf, List.length_map]
    rw [rtf_elr, ← List.map_take, ← List.map_drop, ndf_elr n k, ndf_elr n k]
theorem shw_elr (q : Nat) (rows : List (List Int)) (os : List Int) : shw q (rows.map (elr q)) os = shw q rows os := by
  unfold shw
  refine List.map_congr_left (fun x _ => ?_)
  rw [rat_elr, elr_map, elr_map, List.map_map]
  exact List.map_congr_left fun x _ => Int.emod_emod_of_dvd _ (Int.dvd_refl _)

theorem row_owns {w : World} {g n base : Nat} {e : TypeId} {F : Nat → Value} (h : w.rowIs g e n F) (hb : base ≤ g) (hn : n ≤ maxLen) : w.ownsRow base e 1 (.slice (some ⟨g, 0, none⟩) n n) n ((List.range n).map F) := by
  obtain ⟨c, h1, h2, h3⟩ := h
  refine ⟨by simp, .inr ⟨g, n, c, rfl, hb, h1, Nat.le_refl _, hn, by omega, ?_⟩⟩
  refine List.ext_getElem? fun j => ?_
  rcases Nat.lt_or_ge j n with gj | gj
  · rw [List.getElem?_take_of_lt (by omega), Array.getElem?_toList, h3 j gj]
    simp [gj]
  · rw [List.getElem?_eq_none (by rw [List.length_take]; omega), List.getElem?_eq_none (by simp; omega)]
/-- a row more is laid into rows -/
theorem row_put {w : World} {g n k : Nat} {F : Nat → Value} {R : List (List Int)} {x y : Int} {W0 : World} (h : w.rowIs g 22 n F) (hS : ∀ j, j < k → SlI w (rat R j) (F j)) (hR : rat R k = [x, y]) (hB : Below W0.heap.size W0 w) (hg : W0.heap.size ≤ g) :
    ∃ F' : Nat → Value, ((w.setCell ⟨g, k, none⟩ (.slice (some ⟨w.heap.size, 0, none⟩) 2 2)).alloc (.cells #[.int .i64 x, .int .i64 y] 3)).drew.rowIs g 22 n F' ∧ (∀ j, j < k + 1 → SlI ((w.setCell ⟨g, k, none⟩ (.slice (some ⟨w.heap.size, 0, none⟩) 2 2)).alloc (.cells #[.int .i64 x, .int .i64 y] 3)).drew (rat R j) (F' j)) ∧ Below W0.heap.size W0 ((w.setCell ⟨g, k, none⟩ (.slice (some ⟨w.heap.size, 0, none⟩) 2 2)).alloc (.cells #[.int .i64 x, .int .i64 y] 3)).drew := by
  have hsz : (w.setCell ⟨g, k, none⟩ (.slice (some ⟨w.heap.size, 0, none⟩) 2 2)).heap.size = w.heap.size := by simp [World.setCell]
  have hblk := h
  obtain ⟨c, hc, _, _⟩ := hblk
  have hK : ∀ (b : Nat) (cs : Array Value) (f : Nat × Nat), w.heap[b]? = some (.cells cs 3 f) → ((w.setCell ⟨g, k, none⟩ (.slice (some ⟨w.heap.size, 0, none⟩) 2 2)).alloc (.cells #[.int .i64 x, .int .i64 y] 3)).drew.heap[b]? = w.heap[b]? := fun b cs f hb => by
    have hne : b ≠ g := by
      rintro rfl
      rw [hc] at hb
      injection hb with hb
      injection hb with _ hb _
      exact absurd hb (by decide)
    have hlt := (Array.getElem?_eq_some_iff.1 hb).1
    exact (Below.heap_alloc _ _ _ (by rw [hsz]; exact hlt)).trans (Below.heap_setCell _ _ _ _ hne)
  refine ⟨_, (h.set k (.slice (some ⟨w.heap.size, 0, none⟩) 2 2)).alloc _, fun j hj => ?_, (((hB.setCell (p := ⟨g, k, none⟩) hg _).alloc (by rw [hsz]; exact hB.size) _).drew)⟩
  by_cases e : j = k
  · subst e
    rw [hR]
    have := sli_two (w.setCell ⟨g, j, none⟩ (.slice (some ⟨w.heap.size, 0, none⟩) 2 2)) x y
    rw [hsz] at this
    have h2 := this.ki (KI.below ((Below.refl _ _).drew))
    simpa using h2
  · obtain ⟨a, c', e1, e2⟩ := hS j (by omega)
    have e3 := e2.blocks (w' := ((w.setCell ⟨g, k, none⟩ (.slice (some ⟨w.heap.size, 0, none⟩) 2 2)).alloc (.cells #[.int .i64 x, .int .i64 y] 3)).drew) (by simp [hsz]) hK
    exact ⟨a, c', by simpa [e] using e1, e3⟩

set_option maxRecDepth 100000 in
set_option maxHeartbeats 2000000 in
theorem pairs_any (cap : Nat) (a : Option Addr) (word : List Int) (w : World) (hl : word.length ≤ 131072) (hrow : RowB w.heap.size w a word) :
    Calls Tryz.prog 89 #[.slice a word.length cap] w fun e w' => ∃ v, e = .returned v ∧ OwnI w.heap.size w' v (prsr word) ∧ Below w.heap.size w w' := by
  have hmx : Tryz.prog.follows .mixedOrders = true := by kernel_rfl
  have HR := hid hrow
  obtain ⟨N, hN⟩ : ∃ N, N = word.length := ⟨_, rfl⟩
  obtain ⟨h, hh⟩ : ∃ h, h = N / 2 := ⟨_, rfl⟩
  have q0 : (N : Int) / 2 = (h : Int) := by omega
  have q1 : (N : Int).tdiv 2 = (h : Int) := by rw [Int.tdiv_eq_ediv_of_nonneg (by omega)]; omega
  have q2 : IntKind.i64.wrap (h : Int) = (h : Int) := by rw [IntKind.wrap_i64]; omega
  have q3 : 0 ≤ (N : Int) := by omega
  have hhN : h + h ≤ N := by omega
  obtain ⟨R, hR⟩ : ∃ R, R = prsr word := ⟨_, rfl⟩
  rw [← hR]
  have HRL : Hid (R.length = h) := by unfold Hid; rw [hR, prsr_len, hh, hN]
  have HRR : Hid (∀ k, k < h → rat R k = [zat word k, zat word (k + h)]) := fun k hk => by rw [hR, prsr_rat (by omega), hh, hN]
  have HNN := hid hN
  rw [← hN] at hl ⊢
  have hmk2 := fun w => run_make_row' (P := Tryz.prog) 33 22 (.slice none 0 0) 24 Tryz.underlying33 Tryz.infoSl rfl .i64 .i64 h (by omega) (by omega) w
  clear hrow hN hh hR
  go_enter Tryz.func89, Tryz.ntmps89
  go_wp2_with fail
  go_loopw [11] (fun iv wr => ∃ k : Nat, k ≤ h ∧ iv = .int .i64 k ∧ Hid (∃ F : Nat → Value, wr.rowIs w.heap.size 22 h F ∧ (∀ j, j < k → SlI wr (rat R j) (F j)) ∧ Below w.heap.size w wr)) (fun iv _ => h - (intOf iv).toNat)
  case atStart => exact ⟨0, by omega, rfl, fun _ => .slice none 0 0, World.rowIs_made _ _ _ _, fun j hj => by omega, (Below.refl _ _).alloc (Nat.le_refl _) _⟩
  case round =>
    obtain ⟨k, hk, rfl, hI⟩ := hrel
    by_cases hlt : k < h
    · have hlt2 : (k : Int) < (h : Int) := by omega
      have hlt3 : (k : Int) < (N : Int) := by omega
      have hks : IntKind.i64.wrap ((k : Int) + 1) = (k : Int) + 1 := by rw [IntKind.wrap_i64]; omega
      obtain ⟨kh, hkh⟩ : ∃ kh, kh = k + h := ⟨_, rfl⟩
      have k1 : IntKind.i64.wrap ((k : Int) + (h : Int)) = (kh : Int) := by rw [IntKind.wrap_i64]; omega
      have k0 : (k : Int) + (h : Int) = (kh : Int) := by omega
      have k3 : IntKind.i64.wrap (kh : Int) = (kh : Int) := by rw [IntKind.wrap_i64]; omega
      have k2 : (kh : Int) < (N : Int) := by omega
      obtain ⟨F, hF, hS, hbel⟩ := hI.out
      obtain ⟨b, o, rfl, hb, hc⟩ := HR.out k (by rw [← HNN.out]; omega)
      obtain ⟨_, _, e1, _, hd⟩ := HR.out kh (by rw [← HNN.out]; omega)
      cases e1
      have hc2 := (hbel.cell (p := ⟨b, o + k, none⟩) hb).trans hc
      have hd2 := (hbel.cell (p := ⟨b, o + kh, none⟩) hb).trans hd
      have HRk : Hid (rat R k = [zat word k, zat word kh]) := by rw [hkh]; exact HRR.out k hlt
      generalize zat word k = x at *
      generalize zat word kh = y at *
      have c1 := hF.cell hlt
      have y1 := hF.frozen k
      have hbl : b < wr.heap.size := World.block_lt_of_cell? _ _ hc2
      have hgl : w.heap.size < wr.heap.size := hF.lt
      have HFF := hid hF
      have HSS := hid hS
      have HBB := hid hbel
      have HE := hid (row_put hF hS HRk.out hbel (Nat.le_refl _))
      generalize F k = u0 at *
      clear hI hF hS hbel hc hd hkh hb
      go_wp2_with fail
      go_region_with (fail)
      all_goals
        go_wp2_with fail
        go_roundw
        case rel => exact ⟨k + 1, by omega, by go_num, HE⟩
        case measure => simp [intOf]; omega
    · obtain rfl : k = h := by omega
      have hlt2 : ¬ (k : Int) < (k : Int) := by omega
      obtain ⟨F, hF, hS, hbel⟩ := hI.out
      have HE : Hid (OwnI w.heap.size wr (.slice (some ⟨w.heap.size, 0, none⟩) k k) R ∧ Below w.heap.size w wr) := by
        refine ⟨⟨(List.range k).map F, ?_, fun j hj => ⟨F j, ?_, ?_⟩⟩, hbel⟩
        · rw [HRL.out]
          exact row_owns hF (Nat.le_refl _) (by unfold maxLen; omega)
        · have h1 := HRL.out
          rw [List.getElem?_map, List.getElem?_range (by omega)]
          rfl
        · exact hS j (by have := HRL.out; omega)
      clear hI hF hS hbel
      go_wp2_with fail
      go_ret
      exact ⟨_, rfl, HE.out⟩

end Go.Proofs.YtfppkjpgihnibaaGreatDoor

namespace Go.Proofs.YtfppkjpgihnibaaGreatDoor
open Go.RowKit

/-- append(out, c), and what stays -/
theorem wpList_rowR {ops : Array Oper} {rest : List Oper} {o : Oper} {act : Act} {Q : Exit → Act → World → Prop} (W : World) (base : Nat) (hgd : o.guard = none) (s x : Operand)
    (ho : o.op = .call { callee := .builtin .append, args := #[s, x], argTypes := #[33, 33] }) (v u : Value) (rs : List (List Int)) (r : List Int)
    (hown : OwnR base W v rs) (hu : SlR W r u) (hs : act.eval s = v) (hx : act.eval x = .slice (some ⟨W.heap.size, 0, none⟩) 1 1) (hlen : rs.length + 1 ≤ 5864062014805) (hbase : base ≤ W.heap.size)
    (h : ∀ v' w2, OwnR base w2 v' (rs ++ [r]) → Below base W w2 → W.heap.size ≤ w2.heap.size → (∀ b, b < W.heap.size → v.ownBlock ≠ some b → w2.heap[b]? = W.heap[b]?) → wpList Tryz.prog ops Q rest (act.put o.dst v') w2) :
    wpList Tryz.prog ops Q (o :: rest) act (W.alloc (.cells #[u] 22)) := by
  have hbw : Below W.heap.size W (W.alloc (.cells #[u] 22)) := (Below.refl _ _).alloc (Nat.le_refl _) _
  obtain ⟨i0, hi, hz0, hz1, hz2⟩ := info_parts Tryz.infoSl
  have hown1 := hown.keep hbw
  have hu1 := hu.keep hbw
  have howb := hown1.own
  obtain ⟨vals, h1, h2⟩ := hown1
  have hvl : vals.length = rs.length := by have := h1.1; omega
  refine wpList_append_own _ hgd s x 33 ho base 22 i0 (.slice none 0 0) 1 24 Tryz.underlying33 hi hz0 hz1 hz2 rfl (by decide) _ _ _ hs h1 ⟨W.heap.size, 0, none⟩ 1 1 [u] hx rfl ?_ ?_ (by unfold maxLen; omega) (by omega) (by simp; omega) ?_
  · intro j t hj
    match j, hj with
    | 0, hj => simp at hj; subst hj; simp [Addr.add]
  · intro t ht
    obtain rfl : t = u := by simpa using ht
    exact hu.one
  · intro v' w2 hown2 hgrow _
    have hkS : ∀ {r : List Int} {v : Value}, SlR (W.alloc (.cells #[u] 22)) r v → SlR w2 r v := fun hh => hh.blocks hgrow.size (fun b hb hn => hgrow.block b hb (fun e => (howb b e.symm).2.2 hn))
    have hsz : W.heap.size ≤ w2.heap.size := by have := hgrow.size; simp at this; omega
    refine h v' w2 ⟨vals ++ [u], by rw [List.length_append]; exact hown2, fun j hj => ?_⟩ ((hbw.mono hbase).trans ((Below.refl base _).grown hgrow (by simp; omega) (fun k hk => (howb k hk).1))) hsz (fun b hb hne => ?_)
    · rw [List.length_append] at hj
      rw [rat_app rs [r] j]
      by_cases hjr : j < rs.length
      · rw [if_pos hjr, List.getElem?_append_left (by omega)]
        obtain ⟨u', e1, e2⟩ := h2 j hjr
        exact ⟨u', e1, hkS e2⟩
      · obtain rfl : j = rs.length := by simp at hj; omega
        rw [if_neg hjr, List.getElem?_append_right (by omega), hvl, Nat.sub_self]
        exact ⟨u, rfl, hkS hu1⟩
    · have e := hbw.block b hb
      exact (hgrow.block b (by simp; omega) (fun e => hne e.symm)).trans e

theorem OwnR.kind {base : Nat} {w : World} {v : Value} {rs : List (List Int)} (h : OwnR base w v rs) : ∀ g, v.ownBlock = some g → ∃ c f, w.heap[g]? = some (.cells c 22 f) := fun g hg => by
  obtain ⟨vals, h1, _⟩ := h
  obtain ⟨cs, h2⟩ := owns_kind h1 hg
  exact ⟨cs, _, h2⟩
/-- rows of unlike widths lie apart -/
theorem OwnR.sepI {b b' : Nat} {w : World} {v u : Value} {rs ts : List (List Int)} (h : OwnR b w v rs) (k : OwnI b' w u ts) (h0 : 0 < rs.length) (k0 : 0 < ts.length) (hne : (rat rs 0).length ≠ (rat ts 0).length) : ∀ g, v.ownBlock = some g → u.ownBlock ≠ some g := fun g hg hu => by
  obtain ⟨vals, h1, h2⟩ := h
  obtain ⟨uals, k1, k2⟩ := k
  obtain ⟨x, x1, a, c, rfl, _⟩ := h2 0 h0
  obtain ⟨y, y1, a', c', rfl, _⟩ := k2 0 k0
  rcases h1.2 with ⟨rfl, _⟩ | ⟨g1, cap, cur, rfl, _⟩
  · cases hg
  · rcases k1.2 with ⟨rfl, _⟩ | ⟨g2, cap', cur', rfl, _⟩
    · cases hu
    · simp [Value.ownBlock] at hg hu
      subst hg
      subst hu
      have e1 := h1.cellAt 0 (by omega)
      have e2 := k1.cellAt 0 (by omega)
      rw [x1] at e1
      rw [y1, e1] at e2
      injection e2 with e2
      injection e2 with _ e3 _
      exact hne e3
/-- a root more leaves the trees -/
theorem OwnT.rootsR {base b' : Nat} {w w' : World} {v vt : Value} {rs : List (List Int)} {ts : List (List (List Int))} (h : OwnT base w vt ts) (hr : OwnR b' w v rs) (h0 : rs = [] → v.ownBlock = none) (h4 : ∀ j, j < rs.length → (rat rs j).length = 4) (h2 : ∀ j, j < ts.length → 0 < (tat ts j).length ∧ (rat (tat ts j) 0).length = 2) (hs : w.heap.size ≤ w'.heap.size) (e : ∀ b, b < w.heap.size → v.ownBlock ≠ some b → w'.heap[b]? = w.heap[b]?) : OwnT base w' vt ts := by
  obtain ⟨vals, h1, h3⟩ := h
  have hv := hr.kind
  refine ⟨vals, ⟨h1.1, ?_⟩, fun j hj => ?_⟩
  · rcases h1.2 with hn | ⟨g, cap, cur, rfl, hb, hg, rest⟩
    · exact .inl hn
    · refine .inr ⟨g, cap, cur, rfl, hb, (e g (Array.getElem?_eq_some_iff.1 hg).1 (fun hh => ?_)).trans hg, rest⟩
      obtain ⟨c', f', h5⟩ := hv g hh
      rw [hg] at h5
      injection h5 with h5
      injection h5 with _ h6 _
      exact absurd h6 (by decide)
  · obtain ⟨u, e1, e2⟩ := h3 j hj
    refine ⟨u, e1, e2.apart hs hv (fun g hg => ?_) e⟩
    by_cases hn : rs = []
    · rw [h0 hn] at hg; cases hg
    · have hp : 0 < rs.length := List.length_pos_iff.2 hn
      exact hr.sepI e2 hp (h2 j hj).1 (by rw [h4 0 hp, (h2 j hj).2]; decide) g hg
/-- a turn of one block, of rows or a Folded, leaves lists -/
theorem SlR.one' {w w' : World} {r : List Int} {v : Value} {O : Nat} {cs : Array Value} {t : TypeId} {f : Nat × Nat} (h : SlR w r v) (hO : w.heap[O]? = some (.cells cs t f)) (ht : t = 33 ∨ t = 36) (hs : w.heap.size ≤ w'.heap.size) (e : ∀ b, b < w.heap.size → b ≠ O → w'.heap[b]? = w.heap[b]?) : SlR w' r v :=
  h.blocks hs (fun b hb hn => e b hb (by
    rintro rfl
    obtain ⟨c', t', f', h2, _, _, _, _, h3, h4⟩ := hn
    rw [hO] at h2
    injection h2 with h2
    injection h2 with _ h2 _
    rcases ht with rfl | rfl
    · exact h3 h2.symm
    · exact h4 h2.symm))
/-- a chain's turn leaves lists -/
theorem SlR.chain {w w' : World} {r : List Int} {v : Value} {c : Nat} (h : SlR w r v) (hc : ∃ cs f, w.heap[c]? = some (.cells cs 94 f)) (g : w.grownBy w' (some c)) : SlR w' r v :=
  h.blocks g.size (fun b hb hn => gb_blk g hb (by
    rintro rfl
    obtain ⟨cs, f, h1⟩ := hc
    obtain ⟨c', t, f', h2, _, _, h3, _⟩ := hn
    rw [h1] at h2
    injection h2 with h2
    injection h2 with _ h2 _
    exact h3 h2.symm))
theorem OwnR.chain {base : Nat} {w w' : World} {v : Value} {rs : List (List Int)} {c : Nat} (h : OwnR base w v rs) (hc : ∃ cs f, w.heap[c]? = some (.cells cs 94 f)) (g : w.grownBy w' (some c)) : OwnR base w' v rs := by
  have hk := h.kind
  obtain ⟨vals, h1, h2⟩ := h
  refine ⟨vals, h1.kept g ?_, fun j hj => ?_⟩
  · cases hv : v.ownBlock with
    | none => exact .inl rfl
    | some k =>
      refine .inr ?_
      intro e
      injection e with e
      subst e
      obtain ⟨cs, f, h3⟩ := hc
      obtain ⟨cs', f', h4⟩ := hk _ hv
      rw [h3] at h4
      injection h4 with h4
      injection h4 with _ h4 _
      exact absurd h4 (by decide)
  · obtain ⟨u, h3, h4⟩ := h2 j hj
    exact ⟨u, h3, h4.chain hc g⟩

/-- what stands in made's first loop -/
structure MdS (n0 B N0 q n c : Nat) (v1 vt : Value) (R : List (List Int)) (T : List (List (List Int))) (aw : Option Addr) (cw : Nat) (wl Dc : List Int) (w W : World) : Prop where
  gb : w.grownBy W (some c)
  out : W.heap[B]? = some (.cells #[v1, .slice none 0 0, .slice none 0 0] 36 (0, 0))
  pc : PCh N0 q n W c Dc
  rts : OwnR B W v1 R
  trs : OwnT B W vt T
  wd : WdAt n0 W aw cw wl
  hB : w.heap.size = B
  hc : c < B
  hn : n0 ≤ c
section
variable {n0 B N0 q n c : Nat} {v1 vt : Value} {R : List (List Int)} {T : List (List (List Int))} {aw : Option Addr} {cw : Nat} {wl Dc : List Int} {w W W' : World}
theorem MdS.size (h : MdS n0 B N0 q n c v1 vt R T aw cw wl Dc w W) : B < W.heap.size := (Array.getElem?_eq_some_iff.1 h.out).1
theorem MdS.step (h : MdS n0 B N0 q n c v1 vt R T aw cw wl Dc w W) (e : Below W.heap.size W W') : MdS n0 B N0 q n c v1 vt R T aw cw wl Dc w W' := by
  have hz := h.size
  have hc := h.hc
  have hn := h.hn
  have k := KT.below e
  exact ⟨gb_trans h.gb (gb_below e), (e.block _ hz).trans h.out, h.pc.below e, h.rts.keep e, h.trs.kt k, h.wd.kept k.1.1 (e.mono (by omega)), h.hB, h.hc, h.hn⟩
theorem MdS.turn {Dc' : List Int} (h : MdS n0 B N0 q n c v1 vt R T aw cw wl Dc w W) (g : W.grownBy W' (some c)) (p : PCh N0 q n W' c Dc') : MdS n0 B N0 q n c v1 vt R T aw cw wl Dc' w W' := by
  have hz := h.size
  have hc := h.hc
  have hn := h.hn
  obtain ⟨cs, f, hblk⟩ := h.pc.typ
  have k : KT W W' := KT.oth hblk (by decide) (by decide) (by decide) (by decide) g.size (fun b hb hne => gb_blk g hb hne)
  exact ⟨gb_trans h.gb g, (gb_blk g hz (by omega)).trans h.out, p, h.rts.chain ⟨cs, f, hblk⟩ g, h.trs.kt k, h.wd.kept k.1.1 (gb_to g hn (by omega)), h.hB, h.hc, h.hn⟩
theorem MdS.word {aw' : Option Addr} {cw' : Nat} {wl' : List Int} (h : MdS n0 B N0 q n c v1 vt R T aw cw wl Dc w W) (x : NumL W aw' cw' wl') : MdS n0 B N0 q n c v1 vt R T aw' cw' wl' Dc w W := ⟨h.gb, h.out, h.pc, h.rts, h.trs, Or.inr x, h.hB, h.hc, h.hn⟩
end

end Go.Proofs.YtfppkjpgihnibaaGreatDoor

namespace Go.Proofs.YtfppkjpgihnibaaGreatDoor
open Go.RowKit

/-- between the appends and the store -/
structure MdM (n0 B N0 q n c : Nat) (v0 v1 vt : Value) (R : List (List Int)) (T : List (List (List Int))) (aw : Option Addr) (cw : Nat) (wl Dc : List Int) (w W : World) : Prop where
  gb : w.grownBy W (some c)
  out : W.heap[B]? = some (.cells #[v0, .slice none 0 0, .slice none 0 0] 36 (0, 0))
  pc : PCh N0 q n W c Dc
  rts : OwnR B W v1 R
  trs : OwnT B W vt T
  wd : WdAt n0 W aw cw wl
  hB : w.heap.size = B
  hc : c < B
  hn : n0 ≤ c
section
variable {n0 B N0 q n c : Nat} {v0 v1 vt : Value} {R : List (List Int)} {T : List (List (List Int))} {aw : Option Addr} {cw : Nat} {wl Dc : List Int} {w W W' : World}
theorem gb_base {w W W' : World} {c B : Nat} (h : w.grownBy W (some c)) (hB : w.heap.size = B) (hb : Below B W W') : w.grownBy W' (some c) :=
  ⟨hb.os.trans h.os, hb.tape.trans h.tape, hb.output.trans h.output, Nat.le_trans h.size hb.size, fun b hx hne => (hb.block b (by omega)).trans (h.block b hx hne)⟩
theorem MdS.root {v1' : Value} {r : List Int} (h : MdS n0 B N0 q n c v1 vt R T aw cw wl Dc w W) (hN : N0 ≤ c) (ho : OwnR B W' v1' (R ++ [r])) (hb : Below B W W') (e : ∀ b, b < W.heap.size → v1.ownBlock ≠ some b → W'.heap[b]? = W.heap[b]?) (h0 : R = [] → v1.ownBlock = none) (h4 : ∀ j, j < R.length → (rat R j).length = 4) (h2 : ∀ j, j < T.length → 0 < (tat T j).length ∧ (rat (tat T j) 0).length = 2) :
    MdM n0 B N0 q n c v1 v1' vt (R ++ [r]) T aw cw wl Dc w W' := by
  have hc := h.hc
  have hn := h.hn
  have hB := h.hB
  have ht : ∀ {b : Nat} {c : Array Value} {t : TypeId} {f : Nat × Nat}, W.heap[b]? = some (.cells c t f) → t ≠ 22 → W'.heap[b]? = some (.cells c t f) := fun {b c t f} hg hne => (e b (Array.getElem?_eq_some_iff.1 hg).1 (fun hh => by
    obtain ⟨c', f', h5⟩ := h.rts.kind b hh
    rw [hg] at h5
    injection h5 with h5
    injection h5 with _ h6 _
    exact hne h6)).trans hg
  refine ⟨gb_base h.gb h.hB hb, ht h.out (by decide), h.pc.blocks (hb.block _ hc) (fun b hb' => hb.block b (by omega)), ho, h.trs.rootsR h.rts h0 h4 h2 hb.size e, ?_, h.hB, h.hc, h.hn⟩
  rcases h.wd with hw | hw
  · exact Or.inl (hw.below (hb.mono (by omega)))
  · exact Or.inr (hw.blocks hb.size (fun g cs f hg => (ht hg (by decide)).trans hg.symm))
theorem MdM.tree {vt' : Value} {t : List (List Int)} (h : MdM n0 B N0 q n c v0 v1 vt R T aw cw wl Dc w W) (hN : N0 ≤ c) (ho : OwnT B W' vt' (T ++ [t])) (hb : Below B W W') (hns : ∀ (b : Nat) (c : Array Value) (t : TypeId) (f : Nat × Nat), W.heap[b]? = some (.cells c t f) → t ≠ 33 → W'.heap[b]? = W.heap[b]?) : MdM n0 B N0 q n c v0 v1 vt' R (T ++ [t]) aw cw wl Dc w W' := by
  have hc := h.hc
  have hn := h.hn
  have hB := h.hB
  have k : KI W W' := ⟨hb.size, fun b cs t f hg ht => hns b cs t f hg (by rcases ht with rfl | rfl <;> decide)⟩
  have hr : OwnR B W' v1 R := by
    have hk := h.rts.kind
    obtain ⟨vals, h1, h2⟩ := h.rts
    refine ⟨vals, ⟨h1.1, ?_⟩, fun j hj => ?_⟩
    · rcases h1.2 with hn | ⟨g, cap, cur, rfl, hb', hg, rest⟩
      · exact .inl hn
      · exact .inr ⟨g, cap, cur, rfl, hb', (hns g _ _ _ hg (by decide)).trans hg, rest⟩
    · obtain ⟨u, h3, h4⟩ := h2 j hj
      exact ⟨u, h3, h4.blocks hb.size (fun b hb' hn => by
        obtain ⟨c', t', f', h5, _, _, _, _, h6, _⟩ := hn
        exact hns b c' t' f' h5 h6)⟩
  exact ⟨gb_base h.gb h.hB hb, (hns _ _ _ _ h.out (by decide)).trans h.out, h.pc.blocks (hb.block _ hc) (fun b hb' => hb.block b (by omega)), hr, ho, h.wd.kept k (hb.mono (by omega)), h.hB, h.hc, h.hn⟩
/-- the store -/
theorem MdM.put (h : MdM n0 B N0 q n c v0 v1 vt R T aw cw wl Dc w W) (hN : N0 ≤ c) : MdS n0 B N0 q n c v1 vt R T aw cw wl Dc w (W.setCell ⟨B, 0, none⟩ v1) := by
  have hc := h.hc
  have hn := h.hn
  have hB := h.hB
  have hne : ∀ x, x ≠ B → (W.setCell ⟨B, 0, none⟩ v1).heap[x]? = W.heap[x]? := fun x hx => Below.heap_setCell _ _ _ _ hx
  have k : KT W (W.setCell ⟨B, 0, none⟩ v1) := KT.oth h.out (by decide) (by decide) (by decide) (by decide) (by simp [World.setCell]) (fun b _ hx => hne b hx)
  have hb2 : Below B W (W.setCell ⟨B, 0, none⟩ v1) := (Below.refl _ _).setCell (p := ⟨B, 0, none⟩) (Nat.le_refl _) _
  refine ⟨gb_base h.gb h.hB hb2, tri_arr (tri_set0 (thr_row h.out) v1), h.pc.blocks (hne _ (by omega)) (fun b hb' => hne b (by omega)), ?_, h.trs.kt k, h.wd.kept k.1.1 (hb2.mono (by omega)), h.hB, h.hc, h.hn⟩
  obtain ⟨vals, h1, h2⟩ := h.rts
  refine ⟨vals, ⟨h1.1, ?_⟩, fun j hj => ?_⟩
  · rcases h1.2 with hn | ⟨g, cap, cur, rfl, hb', hg, rest⟩
    · exact .inl hn
    · exact .inr ⟨g, cap, cur, rfl, hb', (k.1.1.2 g _ _ _ hg (.inr rfl)).trans hg, rest⟩
  · obtain ⟨u, h3, h4⟩ := h2 j hj
    exact ⟨u, h3, h4.one' h.out (.inr rfl) (by simp [World.setCell]) (fun b _ hx => hne b hx)⟩
end

end Go.Proofs.YtfppkjpgihnibaaGreatDoor

namespace Go.Proofs.YtfppkjpgihnibaaGreatDoor
open Go.RowKit

theorem OwnT.kk {base : Nat} {w w' : World} {v : Value} {ts : List (List (List Int))} (h : OwnT base w v ts) (k : KI w w') (e : ∀ (b : Nat) (cs : Array Value) (f : Nat × Nat), w.heap[b]? = some (.cells cs 33 f) → w'.heap[b]? = w.heap[b]?) : OwnT base w' v ts := by
  obtain ⟨vals, h1, h2⟩ := h
  refine ⟨vals, ⟨h1.1, ?_⟩, fun j hj => ?_⟩
  · rcases h1.2 with hn | ⟨g, cap, cur, rfl, hb, hg, rest⟩
    · exact .inl hn
    · exact .inr ⟨g, cap, cur, rfl, hb, (e g _ _ hg).trans hg, rest⟩
  · obtain ⟨u, e1, e2⟩ := h2 j hj
    exact ⟨u, e1, e2.ki k⟩
/-- what stands behind made's first loop -/
structure MdU (B N0 q n c : Nat) (v1 v2 v3 vt vp : Value) (R : List (List Int)) (L : List Int) (O : List OnZ) (T : List (List (List Int))) (A Dc : List Int) (w W : World) : Prop where
  gb : w.grownBy W (some c)
  out : W.heap[B]? = some (.cells #[v1, v2, v3] 36 (0, 0))
  pc : PCh N0 q n W c Dc
  rts : OwnR B W v1 R
  lst : SlI W L v2
  ops : OwnF B W v3 O
  trs : OwnT B W vt T
  pls : SlI W A vp
  hB : w.heap.size = B
  hc : c < B
  hN : N0 ≤ c
section
variable {n0 B N0 q n c : Nat} {v1 v2 v3 vt vp : Value} {R : List (List Int)} {L : List Int} {O : List OnZ} {T : List (List (List Int))} {A Dc : List Int} {w W W' : World}
theorem sli_nil (w : World) : SlI w [] (.slice none 0 0) := ⟨none, 0, rfl, numL_nil w⟩
theorem MdU.size (h : MdU B N0 q n c v1 v2 v3 vt vp R L O T A Dc w W) : B < W.heap.size := (Array.getElem?_eq_some_iff.1 h.out).1
theorem MdU.step (h : MdU B N0 q n c v1 v2 v3 vt vp R L O T A Dc w W) (e : Below W.heap.size W W') : MdU B N0 q n c v1 v2 v3 vt vp R L O T A Dc w W' := by
  have k := KT.below e
  exact ⟨gb_trans h.gb (gb_below e), (e.block _ h.size).trans h.out, h.pc.below e, h.rts.keep e, h.lst.ki k.1.1, h.ops.keep e, h.trs.kt k, h.pls.ki k.1.1, h.hB, h.hc, h.hN⟩
theorem MdU.turn {Dc' : List Int} (h : MdU B N0 q n c v1 v2 (.slice none 0 0) vt vp R L [] T A Dc w W) (g : W.grownBy W' (some c)) (p : PCh N0 q n W' c Dc') : MdU B N0 q n c v1 v2 (.slice none 0 0) vt vp R L [] T A Dc' w W' := by
  have hz := h.size
  have hc := h.hc
  obtain ⟨cs, f, hblk⟩ := h.pc.typ
  have k : KT W W' := KT.oth hblk (by decide) (by decide) (by decide) (by decide) g.size (fun b hb hne => gb_blk g hb hne)
  exact ⟨gb_trans h.gb g, (gb_blk g hz (by omega)).trans h.out, p, h.rts.chain ⟨cs, f, hblk⟩ g, h.lst.ki k.1.1, OwnF.nil _ _, h.trs.kt k, h.pls.ki k.1.1, h.hB, h.hc, h.hN⟩
theorem MdU.places {vp' : Value} {A' : List Int} (h : MdU B N0 q n c v1 v2 v3 vt vp R L O T A Dc w W) (hp : SlI W A' vp') : MdU B N0 q n c v1 v2 v3 vt vp' R L O T A' Dc w W := ⟨h.gb, h.out, h.pc, h.rts, h.lst, h.ops, h.trs, hp, h.hB, h.hc, h.hN⟩
theorem MdS.last {aw : Option Addr} {cw : Nat} {wl : List Int} (h : MdS n0 B N0 q n c v1 vt R T aw cw wl Dc w W) (hN : N0 ≤ c) (hl : SlI W L v2) : MdU B N0 q n c v1 v2 (.slice none 0 0) vt (.slice none 0 0) R L [] T [] Dc w (W.setCell ⟨B, 1, none⟩ v2) := by
  have hc := h.hc
  have hB := h.hB
  have hne : ∀ x, x ≠ B → (W.setCell ⟨B, 1, none⟩ v2).heap[x]? = W.heap[x]? := fun x hx => Below.heap_setCell _ _ _ _ hx
  have k : KT W (W.setCell ⟨B, 1, none⟩ v2) := KT.oth h.out (by decide) (by decide) (by decide) (by decide) (by simp [World.setCell]) (fun b _ hx => hne b hx)
  have hb2 : Below B W (W.setCell ⟨B, 1, none⟩ v2) := (Below.refl _ _).setCell (p := ⟨B, 1, none⟩) (Nat.le_refl _) _
  refine ⟨gb_base h.gb h.hB hb2, tri_arr (tri_set1 (thr_row h.out) v2), h.pc.blocks (hne _ (by omega)) (fun b hb' => hne b (by omega)), ?_, hl.ki k.1.1, OwnF.nil _ _, h.trs.kt k, sli_nil _, h.hB, h.hc, hN⟩
  obtain ⟨a1, c1, hv, _⟩ := h.rts.lst
  subst hv
  exact h.rts.setF h.out
theorem MdU.app {v3' : Value} {z : OnZ} (h : MdU B N0 q n c v1 v2 v3 vt vp R L O T A Dc w W) (ho : OwnF B W' v3' (O ++ [z])) (hb : Below B W W') (hz : W.heap.size ≤ W'.heap.size) (hns : ∀ (b : Nat) (c : Array Value) (t : TypeId) (f : Nat × Nat), W.heap[b]? = some (.cells c t f) → t ≠ 107 → W'.heap[b]? = W.heap[b]?) :
    W'.heap[B]? = some (.cells #[v1, v2, v3] 36 (0, 0)) ∧ MdU B N0 q n c v1 v2 v3' vt vp R L (O ++ [z]) T A Dc w (W'.setCell ⟨B, 2, none⟩ v3') := by
  have hc := h.hc
  have hB := h.hB
  have hN := h.hN
  have ho2 : W'.heap[B]? = some (.cells #[v1, v2, v3] 36 (0, 0)) := (hns _ _ _ _ h.out (by decide)).trans h.out
  have hne : ∀ x, x ≠ B → (W'.setCell ⟨B, 2, none⟩ v3').heap[x]? = W'.heap[x]? := fun x hx => Below.heap_setCell _ _ _ _ hx
  have k : KT W' (W'.setCell ⟨B, 2, none⟩ v3') := KT.oth ho2 (by decide) (by decide) (by decide) (by decide) (by simp [World.setCell]) (fun b _ hx => hne b hx)
  have hb2 : Below B W' (W'.setCell ⟨B, 2, none⟩ v3') := (Below.refl _ _).setCell (p := ⟨B, 2, none⟩) (Nat.le_refl _) _
  have ki : KI W W' := KI.notO hz hns
  have hpc : PCh N0 q n W' c Dc := h.pc.blocks (hb.block _ hc) (fun b hb' => hb.block b (by omega))
  have hrt := h.rts.notO hz hns
  have htr : OwnT B W' vt T := h.trs.kk ki (fun b cs f hg => hns b _ _ _ hg (by decide))
  refine ⟨ho2, ⟨gb_base (gb_base h.gb h.hB hb) h.hB hb2, tri_arr (tri_set2 (thr_row ho2) v3'), hpc.blocks (hne _ (by omega)) (fun b hb' => hne b (by omega)), ?_, (h.lst.ki ki).ki k.1.1, ?_, htr.kt k, (h.pls.ki ki).ki k.1.1, h.hB, h.hc, h.hN⟩⟩
  · obtain ⟨a1, c1, e1, _⟩ := h.rts.lst
    obtain ⟨a2, c2, e2, _⟩ := h.lst
    obtain ⟨a3, c3, e3, _⟩ := h.ops.lst
    subst e1 e2 e3
    exact hrt.setF ho2
  · obtain ⟨a1, c1, e1, _⟩ := h.rts.lst
    obtain ⟨a2, c2, e2, _⟩ := h.lst
    obtain ⟨a3, c3, e3, _⟩ := h.ops.lst
    subst e1 e2 e3
    exact ho.setF ho2
end

/-- a struct stored over itself -/
theorem set_same {W : World} {B : Nat} {t : TypeId} {a b c : Value} (h : W.heap[B]? = some (.cells #[a, b, c] t (0, 0))) : (((W.setCell ⟨B, 0, none⟩ a).setCell ⟨B, 1, none⟩ b).setCell ⟨B, 2, none⟩ c).heap[B]? = some (.cells #[a, b, c] t (0, 0)) :=
  tri_arr (tri_set2 (tri_set1 (tri_set0 (thr_row h) a) b) c)
theorem MdU.same {B N0 q n c : Nat} {v1 v2 v3 vt vp : Value} {R : List (List Int)} {L : List Int} {O : List OnZ} {T : List (List (List Int))} {A Dc : List Int} {w W : World} (h : MdU B N0 q n c v1 v2 v3 vt vp R L O T A Dc w W) : MdU B N0 q n c v1 v2 v3 vt vp R L O T A Dc w (((W.setCell ⟨B, 0, none⟩ v1).setCell ⟨B, 1, none⟩ v2).setCell ⟨B, 2, none⟩ v3) := by
  have hs := set_same h.out
  have hz : (((W.setCell ⟨B, 0, none⟩ v1).setCell ⟨B, 1, none⟩ v2).setCell ⟨B, 2, none⟩ v3).heap.size = W.heap.size := by simp [World.setCell]
  have he : ∀ x, (((W.setCell ⟨B, 0, none⟩ v1).setCell ⟨B, 1, none⟩ v2).setCell ⟨B, 2, none⟩ v3).heap[x]? = W.heap[x]? := fun x => by
    by_cases hx : x = B
    · rw [hx, hs, h.out]
    · rw [Below.heap_setCell _ _ _ _ hx, Below.heap_setCell _ _ _ _ hx, Below.heap_setCell _ _ _ _ hx]
  exact h.step ⟨rfl, rfl, rfl, by rw [hz]; exact Nat.le_refl _, fun k _ => he k⟩
theorem results_cttS {P : Program} {fn : Func} {p t u : Tmp} {ty : TypeId} (h : fn.results = #[.cell p ty, .tmp t, .tmp u]) (tmps : Array Value) (w : World) (g : Nat) (tt : TypeId) (cs : Array Value) (fr : Nat × Nat) (d : TypeDesc)
    (hp : tmps.getD p undef = .pointer (some ⟨g, 0, none⟩)) (hg : w.heap[g]? = some (.cells cs tt fr))
    (hu : P.underlying ty = some d) (hd : (match d with | .struct _ | .array _ _ => true | _ => false) = true) (hi : (P.info? ty).map (·.size) = some cs.size) :
    (results fn tmps).run P w = .ok (.tuple #[.agg cs, tmps.getD t undef, tmps.getD u undef]) w := by
  have hp' : tmps[p]?.getD undef = .pointer (some ⟨g, 0, none⟩) := by simpa using hp
  simp [results, h, hp', asAddr, run_loadVar_row w g tt ty cs fr d hg hu hd hi]
/-- Openings of the first trees -/
def mkOi (q n K : Nat) (r s : Int) (word D : List Int) (m a i : Nat) : List OnZ := (List.range i).map (mko q n K r s word D m a)
theorem mkOi_len (q n K : Nat) (r s : Int) (word D : List Int) (m a i : Nat) : (mkOi q n K r s word D m a i).length = i := by simp [mkOi]
theorem mkOi_succ (q n K : Nat) (r s : Int) (word D : List Int) (m a i : Nat) : mkOi q n K r s word D m a (i + 1) = mkOi q n K r s word D m a i ++ [mko q n K r s word D m a i] := by simp [mkOi, List.range_succ]
theorem once_mdz {l os : List Int} {N : Nat} (h : OnceIs (mdz l N) os) : os = mdz l N := asc_unique h.1 (onc_is (l.map (· % (N : Int)))).1 h.2
theorem mdz_any {l : List Int} {N : Nat} (hN : 0 < N) : (mdz l N).any (lackb 0 N) = false := by
  rw [List.any_eq_false]
  intro x hx
  have := mdz_in hN x hx
  simp [lackb]
  omega

end Go.Proofs.YtfppkjpgihnibaaGreatDoor

namespace Go.Proofs.YtfppkjpgihnibaaGreatDoor
open Go.RowKit

/-- the trees' rows, as the program makes them -/
def mkTr (q n K : Nat) (r s : Int) (word D : List Int) (m : Nat) : List (List (List Int)) := (List.range m).map (fun i => prsr (mks q n K r s word D i).1)
theorem mkTr_len (q n K : Nat) (r s : Int) (word D : List Int) (m : Nat) : (mkTr q n K r s word D m).length = m := by simp [mkTr]
theorem mkTr_succ (q n K : Nat) (r s : Int) (word D : List Int) (m : Nat) : mkTr q n K r s word D (m + 1) = mkTr q n K r s word D m ++ [prsr (mks q n K r s word D m).1] := by simp [mkTr, List.range_succ]
theorem mkTr_tat {q n K : Nat} {r s : Int} {word D : List Int} {m i : Nat} (h : i < m) : tat (mkTr q n K r s word D m) i = prsr (mks q n K r s word D i).1 := by simp [tat, mkTr, h]
theorem mkr_raw (q n K : Nat) (r s : Int) (word D : List Int) (i : Nat) : rtf q n (prsr (mks q n K r s word D i).1).length (prsr (mks q n K r s word D i).1) = mkr q n K r s word D i := by
  unfold mkr mkt
  rw [← prsr_map, rtf_elr, List.length_map]
theorem prsr_fitsR {word : List Int} (hf : Fits word) : FitsR (prsr word) := fun k hk => ⟨prsr_fits hf k hk, by
  rw [prsr_len] at hk
  rw [prsr_rat hk]
  simp⟩

/-- what made stands on -/
structure MdP (n0 N0 q n dd b s bs c K m : Nat) (r t : Int) (word D : List Int) (aw : Option Addr) (cw : Nat) (ds : List Nat) (go : Nat) (w : World) : Prop where
  ok : SpgOk q n dd
  sp : SpgAt w s bs q n dd
  sN : s < N0
  bN : bs < N0
  pc : PCh N0 q n w c D
  dg : Dig D
  n0c : n0 ≤ c
  N0c : N0 ≤ c
  dm : DmL q b K m r t w ds
  dc : ∀ i, i ≤ m → ds.getD i 0 ≠ c
  bc : b ≠ c
  ov : ∀ k, k ≤ m → w.cell? ⟨go, k, none⟩ = some (.pointer (some ⟨ds.getD k 0, 0, none⟩))
  gc : go ≠ c
  hK : K ≤ 16
  hm : m + 1 ≤ K
  wl : word.length = 2 ^ K
  wf : Fits word
  lw : Lst n0 w aw cw word
  d0 : ds.getD 0 0 < N0

/-- what made answers -/
def FmdR (N0 q n c K m a : Nat) (r t : Int) (word D : List Int) (w : World) (e : Ending) (w' : World) : Prop :=
  ∃ b1 d1 b2 d2 b3 d3 ap cp, e = .returned (.tuple #[.agg #[.slice b1 m d1, .slice b2 (mkl q n K r t word D m).length d2, .slice b3 m d3], .slice ap a cp, .nilIface]) ∧ OwnR w.heap.size w' (.slice b1 m d1) (mkR q n K r t word D m) ∧ NumL w' b2 d2 (mkl q n K r t word D m) ∧ OwnF w.heap.size w' (.slice b3 m d3) (mkO q n K r t word D m a) ∧ NumL w' ap cp (mkA q n K r t word D m a) ∧ PCh N0 q n w' c (pld q n a (ckL q n (mkR q n K r t word D m) (mkl q n K r t word D m) D m)) ∧ w.grownBy w' (some c)
theorem WdAt.lst {n0 : Nat} {W : World} {a : Option Addr} {c : Nat} {l : List Int} (h : WdAt n0 W a c l) (hn : n0 ≤ W.heap.size) : Lst W.heap.size W a c l := by
  rcases h with h | h
  · exact h.mono hn
  · exact h.1

set_option maxRecDepth 100000 in
set_option maxHeartbeats 4000000 in
theorem fmade_any (n0 N0 q n dd b s bs c K m a cw co : Nat) (r t : Int) (aw : Option Addr) (word D : List Int) (ds : List Nat) (go : Nat) (w : World) (H : MdP n0 N0 q n dd b s bs c K m r t word D aw cw ds go w) (hco : m + 1 ≤ co) (ha1 : 1 ≤ a) (ha : a ≤ 64) :
    Calls Tryz.prog 39 #[.pointer (some ⟨s, 0, none⟩), .pointer (some ⟨c, 0, none⟩), .slice (some ⟨go, 0, none⟩) (m + 1) co, .slice aw word.length cw, .int .i64 (a : Int)] w (FmdR N0 q n c K m a r t word D w) := by
  have HH := hid H
  have hK := H.hK
  have hmK := H.hm
  have h3 := (H.dm.dom 0 (by omega)).h3
  have h4 := (H.dm.dom 0 (by omega)).hm
  have HWL : Hid (∀ i, i ≤ K → (mks q n K r t word D i).1.length = 2 ^ (K - i)) := mks_len H.wl
  have HWF : Hid (∀ i, Fits (mks q n K r t word D i).1) := mks_fits h3 h4 H.wf
  have HDG : Hid (∀ i, Dig (mks q n K r t word D i).2) := mks_dig h3 h4 H.dg
  have HRL : Hid (∀ i, i < K → (mkr q n K r t word D i).length = 4) := fun i hi => mkr_len H.wl hi
  have HRF : Hid (∀ i, Fits (mkr q n K r t word D i)) := mkr_fits h3 h4
  obtain ⟨NK, hNK⟩ : ∃ NK, NK = 2 ^ K := ⟨_, rfl⟩
  have hNK2 : NK ≤ 65536 := by rw [hNK]; exact two_pow_le hK
  have HNK := hid hNK
  rw [H.wl, ← hNK]
  obtain ⟨m1, hm1⟩ : ∃ m1, m1 = m + 1 := ⟨_, rfl⟩
  rw [← hm1]
  have HM1 := hid hm1
  have e1 : IntKind.i64.wrap ((m1 : Int) - 1) = (m : Int) := by rw [IntKind.wrap_i64]; omega
  have e2 : (m1 : Int) - 1 = (m : Int) := by omega
  have e3 : (m : Int) ≤ (m1 : Int) := by omega
  have e4 : IntKind.i64.wrap (m : Int) = (m : Int) := by rw [IntKind.wrap_i64]; omega
  have e5 : (m : Int) ≤ (co : Int) := by omega
  have e6 : m ≤ co := by omega
  obtain ⟨W0, hW0⟩ : ∃ W0, W0 = w.alloc (.cells #[.slice none 0 0, .slice none 0 0, .slice none 0 0] 36) := ⟨_, rfl⟩
  have hb0 : Below w.heap.size w W0 := by rw [hW0]; exact (Below.refl _ _).alloc (Nat.le_refl _) _
  have hcl := H.pc.lt
  have HS0 : Hid (MdS n0 w.heap.size N0 q n c (.slice none 0 0) (.slice none 0 0) [] [] aw cw word D w W0) := by
    refine ⟨gb_below hb0, by rw [hW0]; exact heap_alloc_new w _, H.pc.below hb0, OwnR.nil _ _, OwnT.nil _ _, Or.inl (H.lw.below (hb0.mono (by have := H.n0c; omega))), rfl, hcl, H.n0c⟩
  have hm16 : m ≤ 16 := by omega
  have HGO : Hid (∀ W, w.grownBy W (some c) → ∀ k, k ≤ m → W.cell? ⟨go, k, none⟩ = some (.pointer (some ⟨ds.getD k 0, 0, none⟩))) := fun W hg k hk => (gb_cell hg (p := ⟨go, k, none⟩) (World.block_lt_of_cell? _ _ (HH.out.ov k hk)) HH.out.gc).trans (HH.out.ov k hk)
  have HDO : Hid (∀ W, w.grownBy W (some c) → ∀ k, k ≤ m → DO W q b (ds.getD k 0) (2 ^ (K - k)) (sqi q r k) (sqi q t k)) := fun W hg k hk => (HH.out.dm.dom k hk).gb hg HH.out.bc (HH.out.dc k hk)
  clear hNK hm1 H hb0
  go_enter Tryz.func39, Tryz.ntmps39
  go_wp2_with fail
  rw [← hW0]
  clear hW0
  go_loopw [3, 13, 31] (fun wv tv iv wr => ∃ (i nn cw' : Nat) (aw' : Option Addr) (v1 : Value), i ≤ m ∧ nn ≤ 65536 ∧ iv = .int .i64 (i : Int) ∧ wv = .slice aw' nn cw' ∧ Hid (nn = 2 ^ (K - i)) ∧ Hid ((i = 0 → v1.ownBlock = none) ∧ MdS n0 w.heap.size N0 q n c v1 tv (mkR q n K r t word D i) (mkTr q n K r t word D i) aw' cw' (mks q n K r t word D i).1 (mks q n K r t word D i).2 w wr)) (fun _ _ iv _ => m - (intOf iv).toNat)
  case atStart => exact ⟨0, NK, cw, aw, .slice none 0 0, by omega, hNK2, rfl, rfl, HNK.out, fun _ => rfl, HS0.out⟩
  case round =>
    obtain ⟨i, nn, cw', aw', v1, hi, hnn, rfl, rfl, hnn2, hI⟩ := hrel
    by_cases hlt : i < m
    · have hlt2 : (i : Int) < (m : Int) := by omega
      have his : IntKind.i64.wrap ((i : Int) + 1) = (i : Int) + 1 := by rw [IntKind.wrap_i64]; omega
      have hS := hI.out.2
      have z0 := HGO.out wr hS.gb i (by omega)
      obtain ⟨di, hdi⟩ : ∃ di, di = ds.getD i 0 := ⟨_, rfl⟩
      rw [← hdi] at z0
      obtain ⟨Wd, hWd⟩ : ∃ Wd, Wd = (mks q n K r t word D i).1 := ⟨_, rfl⟩
      obtain ⟨Di, hDi⟩ : ∃ Di, Di = (mks q n K r t word D i).2 := ⟨_, rfl⟩
      obtain ⟨root, hroot⟩ : ∃ root, root = mkr q n K r t word D i := ⟨_, rfl⟩
      obtain ⟨rows, hrows⟩ : ∃ rows, rows = prsr Wd := ⟨_, rfl⟩
      obtain ⟨Hh, hHh⟩ : ∃ Hh, Hh = 2 ^ (K - i - 1) := ⟨_, rfl⟩
      have hpw : 2 ^ (K - i) = 2 * Hh := by
        have h2 : 2 ^ (K - i) = 2 ^ ((K - i - 1) + 1) := by congr 1; omega
        rw [h2, Nat.pow_succ, ← hHh]; omega
      have hHp : 1 ≤ Hh := by rw [hHh]; exact Nat.two_pow_pos _
      have hWl : Wd.length = nn := by rw [hWd, HWL.out i (by omega), hnn2.out]
      have hn2 : nn = 2 * Hh := by rw [hnn2.out, hpw]
      have hrl : rows.length = Hh := by rw [hrows, prsr_len, hWl, hn2]; omega
      have hrt : rtf q n rows.length rows = root := by rw [hrows, hWd, hroot]; exact mkr_raw _ _ _ _ _ _ _ _
      have HPA : Hid (Calls Tryz.prog 89 #[.slice aw' nn cw'] wr fun e w' => ∃ v, e = .returned v ∧ OwnI wr.heap.size w' v rows ∧ Below wr.heap.size wr w') := by
        have := pairs_any cw' aw' Wd wr (by omega) (by rw [hWd]; exact hS.wd.row (by have := hS.size; have := hS.hc; have := hS.hn; omega))
        rwa [hWl, ← hrows] at this
      have HS := hid hS
      have HV0 := hid hI.out.1
      have HE := hid (⟨hdi, hWd, hDi, hroot, hrows, hHh, hpw, hWl, hn2, hrl, hrt⟩ : di = ds.getD i 0 ∧ Wd = (mks q n K r t word D i).1 ∧ Di = (mks q n K r t word D i).2 ∧ root = mkr q n K r t word D i ∧ rows = prsr Wd ∧ Hh = 2 ^ (K - i - 1) ∧ 2 ^ (K - i) = 2 * Hh ∧ Wd.length = nn ∧ nn = 2 * Hh ∧ rows.length = Hh ∧ rtf q n rows.length rows = root)
      have hHb : Hh ≤ 65536 := by omega
      clear hI hS hdi hWd hDi hroot hrows hHh hpw hWl hn2 hrl hrt
      go_wp2_with fail
      refine HPA.out.mono ?_
      rintro e w1 ⟨v, rfl, ho1, hb1⟩
      obtain ⟨ar, cr, hv, hl1⟩ := ho1.lst
      rw [HE.out.2.2.2.2.2.2.2.2.2.1] at hv
      subst hv
      have HS1 := hid (HS.out.step hb1)
      have HO1 := hid ho1
      have HRT : Hid (Calls Tryz.prog 90 #[.pointer (some ⟨s, 0, none⟩), .slice ar Hh cr] w1 fun e w' => ∃ a c, e = .returned (.tuple #[.slice a 4 c, .nilIface]) ∧ SlR w' root (.slice a 4 c) ∧ Below w1.heap.size w1 w') := by
        have hE := HE.out
        have hsp : SpgAt w1 s bs q n dd := HH.out.sp.below (gb_to HS1.out.gb HH.out.N0c (by have := HH.out.N0c; omega)) HH.out.sN HH.out.bN
        have hfr : FitsR rows := by rw [hE.2.2.2.2.1, hE.2.1]; exact prsr_fitsR (HWF.out i)
        have := troot_slr q n dd bs s cr ar rows w1 HH.out.ok hsp (by omega) (by omega) hfr hl1
        rwa [hE.2.2.2.2.2.2.2.2.2.2, hE.2.2.2.2.2.2.2.2.2.1] at this
      clear ho1 hb1 hl1 HPA HS
      go_wp2_with fail
      refine HRT.out.mono ?_
      rintro e w2 ⟨a2, c2, rfl, hs2, hb2⟩
      have HS2 := hid (HS1.out.step hb2)
      have HO2 := hid (HO1.out.ki (KI.below hb2))
      have HSR := hid hs2
      clear hs2 hb2 HRT HS1 HO1
      have hr4 : root.length = 4 := by rw [HE.out.2.2.2.1]; exact HRL.out i (by omega)
      have HTK : Hid (Calls Tryz.prog 55 #[.pointer (some ⟨c, 0, none⟩), .slice a2 4 c2] w2 fun e w' => e = .returned (.tuple #[]) ∧ PCh N0 q n w' c (digl q n (3 :: (Di ++ root))) ∧ w2.grownBy w' (some c)) := by
        obtain ⟨ax, cx, hx, hlx⟩ := HSR.out.lst
        injection hx with e5 _ e6
        subst e5 e6
        have hp := HS2.out.pc
        rw [← HE.out.2.2.1] at hp
        have := ctake_any N0 q n c c2 a2 root Di w2 hp (by rw [HE.out.2.2.1]; exact HDG.out i) (by omega) (by rw [HE.out.2.2.2.1]; exact HRF.out i) hlx
        rwa [hr4] at this
      have HR4 := hid hr4
      clear hr4
      go_wp2_with fail
      refine HTK.out.mono ?_
      rintro e w3 ⟨rfl, hp3, hg3⟩
      have HS3 := hid (HS2.out.turn hg3 hp3)
      have HO3 := hid (HO2.out.ki (KI.oth (HS2.out.pc.typ.choose_spec.choose_spec) (by decide) (by decide) hg3.size (fun b hb hne => gb_blk hg3 hb hne)))
      have HSR3 := hid (HSR.out.chain HS2.out.pc.typ hg3)
      have HDR := hid (cdraw_any N0 q n c _ w3 hp3 (dig_digl h3 h4 _ _))
      obtain ⟨D2, hD2⟩ : ∃ D2, D2 = digl q n (4 :: digl q n (3 :: (Di ++ root))) := ⟨_, rfl⟩
      rw [← hD2] at HDR
      have HD2 := hid hD2
      have HXB : Hid (-9223372036854775808 ≤ zat D2 0 ∧ zat D2 0 ≤ 9223372036854775807) := by unfold Hid; rw [hD2]; exact (digl_fits h3 h4 _ _).all 0
      clear hp3 hg3 HTK HS2 HO2 HSR hD2
      go_wp2_with fail
      refine HDR.out.mono ?_
      rintro e w4 ⟨rfl, hp4, hg4⟩
      have HS4 := hid (HS3.out.turn hg4 hp4)
      have HO4 := hid (HO3.out.ki (KI.oth (HS3.out.pc.typ.choose_spec.choose_spec) (by decide) (by decide) hg4.size (fun b hb hne => gb_blk hg4 hb hne)))
      have HSR4 := hid (HSR3.out.chain HS3.out.pc.typ hg4)
      clear hp4 hg4 HDR HS3 HO3 HSR3
      generalize hx0 : zat D2 0 = x at *
      have HX0 := hid hx0
      have HFO : Hid (Calls Tryz.prog 91 #[.pointer (some ⟨di, 0, none⟩), .slice aw' nn cw', .int .i64 x] w4 fun e w' => e = .returned (.slice (some ⟨w4.heap.size, 0, none⟩) Hh Hh) ∧ ArrI w' w4.heap.size 3 Hh (zat (Fol.foldz q Hh (sqi q r i) (sqi q t i) Wd x)) ∧ Below w4.heap.size w4 w') := by
        have hE := HE.out
        have hD := HDO.out w4 HS4.out.gb i (by omega)
        rw [← hE.1, hE.2.2.2.2.2.2.1] at hD
        have hrw := HS4.out.wd.row (by have := HS4.out.size; have := HS4.out.hc; have := HS4.out.hn; omega)
        rw [← hE.2.1] at hrw
        have := folded_any q b di Hh cw' w4.heap.size aw' (sqi q r i) (sqi q t i) x Wd w4 hD (by rw [hE.2.2.2.2.2.2.2.1, hE.2.2.2.2.2.2.2.2.1]) (by rw [hE.2.1]; exact HWF.out i) hrw (Nat.le_refl _) HXB.out.1 HXB.out.2
        rwa [hE.2.2.2.2.2.2.2.1] at this
      clear hx0
      go_wp2_with fail
      refine HFO.out.mono ?_
      rintro e w5 ⟨rfl, hA5, hb5⟩
      have HNX : Hid (mks q n K r t word D (i + 1) = (Fol.foldz q Hh (sqi q r i) (sqi q t i) Wd x, D2)) := by
        have hE := HE.out
        unfold Hid
        rw [mks, ← hE.2.1, ← hE.2.2.1, ← hE.2.2.2.2.2.1]
        have e7 : rtf q n (prs5 q Wd).length (prs5 q Wd) = root := by rw [hE.2.1, hE.2.2.2.1]; rfl
        simp only [e7]
        rw [← HD2.out, HX0.out]
      have hNL : NumL w5 (some ⟨w4.heap.size, 0, none⟩) Hh (mks q n K r t word D (i + 1)).1 := by
        rw [HNX.out]
        exact ⟨lst_arr hA5 (Fol.foldz_len _ _ _ _ _ _) (fun j _ => rfl), fun _ => ⟨_, 0, _, _, rfl, hA5.heap⟩⟩
      have HS5 : Hid (MdS n0 w.heap.size N0 q n c v1 u13 (mkR q n K r t word D i) (mkTr q n K r t word D i) (some ⟨w4.heap.size, 0, none⟩) Hh (mks q n K r t word D (i + 1)).1 (mks q n K r t word D (i + 1)).2 w w5) := by
        have h5 := (HS4.out.step hb5).word hNL
        rw [HNX.out] at h5 ⊢
        exact h5
      have HO5 := hid (HO4.out.ki (KI.below hb5))
      have HSR5 := hid (HSR4.out.keep hb5)
      clear hA5 hb5 hNL HFO HS4 HO4 HSR4 HNX
      have d0 := thr0 HS5.out.out
      have hbs : w.heap.size ≤ w5.heap.size := HS5.out.gb.size
      have HRN : Hid ((mkR q n K r t word D i).length + 1 ≤ 5864062014805) := by unfold Hid; rw [mkR_len]; omega
      have HTN : Hid ((mkTr q n K r t word D i).length + 1 ≤ 5864062014805) := by unfold Hid; rw [mkTr_len]; omega
      go_wp2_with (at_builtin; refine wpList_rowR w5 w.heap.size rfl _ _ rfl _ _ (mkR q n K r t word D i) root HS5.out.rts HSR5.out rfl rfl HRN.out hbs ?_)
      intro v1' w6 ho6 hb6 hz6 he6
      obtain ⟨ax, cx, hv1', _⟩ := ho6.lst
      obtain ⟨nx, hnx⟩ : ∃ nx, nx = (mkR q n K r t word D i ++ [root]).length := ⟨_, rfl⟩
      rw [← hnx] at hv1'
      subst hv1'
      clear hnx
      have hR0 : mkR q n K r t word D i = [] → v1.ownBlock = none := fun h => HV0.out (by have := congrArg List.length h; rw [mkR_len] at this; simpa using this)
      have hR4 : ∀ j, j < (mkR q n K r t word D i).length → (rat (mkR q n K r t word D i) j).length = 4 := fun j hj => by
        rw [mkR_len] at hj
        rw [mkR_rat hj]
        exact HRL.out j (by omega)
      have hT2 : ∀ j, j < (mkTr q n K r t word D i).length → 0 < (tat (mkTr q n K r t word D i) j).length ∧ (rat (tat (mkTr q n K r t word D i) j) 0).length = 2 := fun j hj => by
        rw [mkTr_len] at hj
        rw [mkTr_tat hj]
        have h7 := HWL.out j (by omega)
        have h8 : 2 ^ (K - j) = 2 * 2 ^ (K - j - 1) := by
          have h2 : 2 ^ (K - j) = 2 ^ ((K - j - 1) + 1) := by congr 1; omega
          rw [h2, Nat.pow_succ]; omega
        have h9 : 0 < 2 ^ (K - j - 1) := Nat.two_pow_pos _
        refine ⟨by rw [prsr_len]; omega, ?_⟩
        rw [prsr_rat (by omega)]
        rfl
      have HMM := hid (HS5.out.root HH.out.N0c ho6 hb6 he6 hR0 hR4 hT2)
      have HO6 : Hid (OwnI 0 w6 (.slice ar Hh cr) rows) := by
        have hE := HE.out
        refine OwnI.mono (HO5.out.apart (v := v1) hz6 HS5.out.rts.kind (fun g hg => ?_) he6) (Nat.zero_le _)
        by_cases h0 : i = 0
        · rw [HV0.out h0] at hg; cases hg
        · refine HS5.out.rts.sepI HO5.out (by rw [mkR_len]; omega) (by omega) ?_ g hg
          rw [hR4 0 (by rw [mkR_len]; omega), hE.2.2.2.2.1, prsr_rat (by omega)]
          simp
      clear ho6 hb6 he6 hR0 hR4 hT2 HS5 HO5 HSR5 d0
      have hbs6 : w.heap.size ≤ w6.heap.size := HMM.out.gb.size
      go_wp2_with (at_builtin; refine wpList_tree1 w6 w.heap.size rfl _ _ rfl _ _ (mkTr q n K r t word D i) rows HMM.out.trs HO6.out rfl rfl HTN.out hbs6 ?_)
      intro vt' w7 ho7 hb7 hz7 hns7
      have HM7 := hid (HMM.out.tree HH.out.N0c ho7 hb7 (fun b c t f hg hne => hns7 b c t f.1 f.2 hg hne))
      have dc := thr0 HM7.out.out
      have df : w7.frozen? ⟨w.heap.size, 0, none⟩ = false := (thr_row HM7.out.out).frozen 0
      have HP7 := hid (HM7.out.put HH.out.N0c)
      have HF7 : Hid ((i + 1 = 0 → (Value.slice ax nx cx).ownBlock = none) ∧ MdS n0 w.heap.size N0 q n c (.slice ax nx cx) vt' (mkR q n K r t word D (i + 1)) (mkTr q n K r t word D (i + 1)) (some ⟨w4.heap.size, 0, none⟩) Hh (mks q n K r t word D (i + 1)).1 (mks q n K r t word D (i + 1)).2 w (w7.setCell ⟨w.heap.size, 0, none⟩ (.slice ax nx cx))) := by
        have hE := HE.out
        refine ⟨fun h => by omega, ?_⟩
        have h5 := HP7.out
        rw [hE.2.2.2.1, hE.2.2.2.2.1, hE.2.1, ← mkR_succ, ← mkTr_succ] at h5
        exact h5
      have HN7 : Hid (Hh = 2 ^ (K - (i + 1))) := by unfold Hid; rw [HE.out.2.2.2.2.2.1, Nat.sub_sub]
      clear ho7 hb7 hz7 hns7 HMM HM7 HP7 HO6 hz6
      go_wp2_with fail
      go_roundw
      case rel => exact ⟨i + 1, Hh, Hh, some ⟨w4.heap.size, 0, none⟩, .slice ax nx cx, by omega, hHb, by go_num, rfl, HN7.out, HF7.out⟩
      case measure => simp [intOf]; omega
    · obtain ⟨m', hm'⟩ : ∃ m', m' = m := ⟨_, rfl⟩
      obtain rfl : i = m := by omega
      have hlt2 : ¬ (i : Int) < (i : Int) := by omega
      have hS := hI.out.2
      have z0 := HGO.out wr hS.gb i (Nat.le_refl _)
      obtain ⟨di, hdi⟩ : ∃ di, di = ds.getD i 0 := ⟨_, rfl⟩
      rw [← hdi] at z0
      obtain ⟨L, hL⟩ : ∃ L, L = mkl q n K r t word D i := ⟨_, rfl⟩
      have hLl : L.length ≤ 65536 := by
        rw [hL]
        have h7 := bk_len q (2 ^ (K - i)) (sqi q r i) (sqi q t i) (mks q n K r t word D i).1
        have h8 : 2 ^ (K - i) ≤ 65536 := two_pow_le (by omega)
        exact Nat.le_trans h7 h8
      have HLF : Hid (Fits L) := by unfold Hid; rw [hL]; exact trim_fits h3 h4 _
      have HCO : Hid (Calls Tryz.prog 88 #[.pointer (some ⟨di, 0, none⟩), .slice aw' nn cw'] wr fun e w' => ∃ (g c : Nat), e = .returned (.tuple #[.slice (some ⟨g, 0, none⟩) L.length c, .nilIface]) ∧ NumL w' (some ⟨g, 0, none⟩) c L ∧ Below wr.heap.size wr w') := by
        have := coef_numD (HDO.out wr hS.gb i (Nat.le_refl _)) aw' cw' (mks q n K r t word D i).1 (HWL.out i (by omega)) (HWF.out i) (hS.wd.lst (by have := hS.size; have := hS.hc; have := hS.hn; omega))
        rw [← hnn2.out, ← hdi] at this
        rw [hL]
        unfold mkl
        rw [← hnn2.out]
        exact this
      obtain ⟨et, ct, hvt⟩ := hS.trs.form
      rw [mkTr_len] at hvt
      subst hvt
      obtain ⟨a1, c1, hv1, _⟩ := hS.rts.lst
      rw [mkR_len] at hv1
      subst hv1
      have HS := hid hS
      have HE := hid (⟨hdi, hL⟩ : di = ds.getD i 0 ∧ L = mkl q n K r t word D i)
      clear hI hS hdi hL
      go_wp2_with fail
      refine HCO.out.mono ?_
      rintro e w1 ⟨g, cL, rfl, hnl, hb1⟩
      have HS1 := hid (HS.out.step hb1)
      have d1 := thr1 HS1.out.out
      have y1 := thrF HS1.out.out 1
      have HU1 := hid (HS1.out.last HH.out.N0c ⟨_, _, rfl, hnl⟩)
      have x1 := thr1 HU1.out.out
      obtain ⟨W1, hW1⟩ : ∃ W1, W1 = w1.setCell ⟨w.heap.size, 1, none⟩ (.slice (some ⟨g, 0, none⟩) L.length cL) := ⟨_, rfl⟩
      rw [← hW1] at HU1 x1
      have HTK : Hid (Calls Tryz.prog 55 #[.pointer (some ⟨c, 0, none⟩), .slice (some ⟨g, 0, none⟩) L.length cL] W1 fun e w' => e = .returned (.tuple #[]) ∧ PCh N0 q n w' c (digl q n (3 :: ((mks q n K r t word D i).2 ++ L))) ∧ W1.grownBy w' (some c)) := by
        obtain ⟨ax, cx, hx, hnx⟩ := HU1.out.lst
        injection hx with e5 _ e6
        subst e5 e6
        exact ctake_any N0 q n c _ _ L (mks q n K r t word D i).2 W1 HU1.out.pc (HDG.out i) (by omega) HLF.out hnx.1
      clear hnl hb1 HCO HS HS1 z0
      go_wp2_with fail
      rw [← hW1]
      clear hW1
      go_wp2_with fail
      refine HTK.out.mono ?_
      rintro e w3 ⟨rfl, hp3, hg3⟩
      obtain ⟨D3, hD3⟩ : ∃ D3, D3 = digl q n (3 :: ((mks q n K r t word D i).2 ++ L)) := ⟨_, rfl⟩
      rw [← hD3] at hp3
      have HD3 : Hid (Dig D3) := by unfold Hid; rw [hD3]; exact dig_digl h3 h4 _ _
      have HU3 := hid (HU1.out.turn hg3 hp3)
      have HCL : Hid (D3 = ckL q n (mkR q n K r t word D i) L D i) := by unfold Hid ckL; rw [hD3, mks_ckD i (Nat.le_refl _)]
      clear hp3 hg3 HTK HU1 x1 hD3
      have z0 := HGO.out w3 HU3.out.gb 0 (by omega)
      obtain ⟨dz, hdz⟩ : ∃ dz, dz = ds.getD 0 0 := ⟨_, rfl⟩
      rw [← hdz] at z0
      obtain ⟨H, hH⟩ : ∃ H, H = 2 ^ K / 2 := ⟨_, rfl⟩
      have hK2 : 2 ^ K = 2 * H := by
        have h2 : 2 ^ K = 2 ^ ((K - 1) + 1) := by congr 1; omega
        rw [hH, h2, Nat.pow_succ]; omega
      have hKp : 0 < 2 ^ K := Nat.two_pow_pos _
      have hK6 : 2 ^ K ≤ 65536 := two_pow_le hK
      have hH1 : 1 ≤ H := by omega
      have hH2 : H ≤ 65536 := by omega
      have HDP : Hid (Calls Tryz.prog 57 #[.pointer (some ⟨c, 0, none⟩), .pointer (some ⟨dz, 0, none⟩), .int .i64 (a : Int)] w3 fun e w' => e = .returned (.slice (some ⟨w3.heap.size, 0, none⟩) a a) ∧ ArrI w' w3.heap.size 3 a (plz q n H D3) ∧ PCh N0 q n w' c (pld q n a D3) ∧ w3.grownBy w' (some c)) := by
        have hD := HDO.out w3 HU3.out.gb 0 (by omega)
        rw [← hdz] at hD
        have hda := hD.da
        rw [Nat.sub_zero, hK2] at hda
        exact drawplaces_any N0 q n c dz b H a _ _ D3 w3 h3 h4 HU3.out.pc HD3.out (fun W hB => hda.below hB (by rw [hdz]; exact HH.out.d0)) hH1 hH2 (by omega)
      have HHE := hid hH
      have hm1p : (0 : Int) < (m1 : Int) := by have := HM1.out; omega
      have hm1q : 0 < m1 := by have := HM1.out; omega
      clear hdz hK2 hKp hK6 hH
      go_wp2_with fail
      refine HDP.out.mono ?_
      rintro e w4 ⟨rfl, hA4, hp4, hg4⟩
      obtain ⟨A, hA⟩ : ∃ A, A = ls (plz q n H D3) a := ⟨_, rfl⟩
      have hAl : A.length = a := by rw [hA, ls_len]
      have HAE : Hid (A = mkA q n K r t word D i a) := by unfold Hid mkA ckA; rw [hA, HHE.out, HCL.out, HE.out.2]
      have HAZ : Hid (∀ j, j < A.length → 0 ≤ zat A j ∧ zat A j ≤ 9223372036854775807) := fun j hj => by
        rw [hAl] at hj
        rw [hA, ls_at _ _ _ hj]
        unfold plz
        have h7 := Int.emod_nonneg (zat (pld q n (j + 1) D3) 0 * q + zat (pld q n (j + 1) D3) 1) (show (H : Int) ≠ 0 by omega)
        have h8 := Int.emod_lt_of_pos (zat (pld q n (j + 1) D3) 0 * q + zat (pld q n (j + 1) D3) 1) (show (0 : Int) < H by omega)
        omega
      have hsA : SlI w4 A (.slice (some ⟨w3.heap.size, 0, none⟩) a a) := ⟨_, a, by rw [hAl], lst_arr hA4 hAl (fun j hj => by rw [hA, ls_at _ _ _ hj]), fun _ => ⟨_, 0, _, _, rfl, hA4.heap⟩⟩
      have HU4 := hid ((HU3.out.turn hg4 hp4).places hsA)
      have HAL := hid hAl
      generalize w3.heap.size = gA at *
      clear hA4 hp4 hg4 HDP HU3 z0 hA hsA hAl
      go_wp2_with fail
      go_loopw [11, 92] (fun pv iv wr => ∃ (j : Nat) (v3 : Value), j ≤ i ∧ pv = .slice (some ⟨gA, 0, none⟩) a a ∧ iv = .int .i64 (j : Int) ∧ Hid (MdU w.heap.size N0 q n c (.slice a1 i c1) (.slice (some ⟨g, 0, none⟩) L.length cL) v3 (.slice et i ct) (.slice (some ⟨gA, 0, none⟩) a a) (mkR q n K r t word D i) L (mkOi q n K r t word D i a j) (mkTr q n K r t word D i) A (pld q n a D3) w wr)) (fun _ iv _ => i - (intOf iv).toNat)
      case atStart => exact ⟨0, .slice none 0 0, Nat.zero_le _, rfl, rfl, HU4.out⟩
      case round =>
        obtain ⟨j, v3, hj, rfl, rfl, hU⟩ := hrel
        by_cases hji : j < i
        · have hji2 : (j : Int) < (i : Int) := by omega
          have hjs : IntKind.i64.wrap ((j : Int) + 1) = (j : Int) + 1 := by rw [IntKind.wrap_i64]; omega
          have hUo := hU.out
          obtain ⟨gt, ctt, ar, cr, hvt, hct, hlr⟩ := hUo.trs.at (j := j) (by rw [mkTr_len]; exact hji)
          have hvt1 : et = some ⟨gt, 0, none⟩ := by injection hvt
          clear hvt
          subst hvt1
          rw [mkTr_tat hji] at hct hlr
          obtain ⟨rows, hrows⟩ : ∃ rows, rows = prsr (mks q n K r t word D j).1 := ⟨_, rfl⟩
          obtain ⟨Hj, hHj⟩ : ∃ Hj, Hj = 2 ^ (K - j - 1) := ⟨_, rfl⟩
          have hpw : 2 ^ (K - j) = 2 * Hj := by
            have h2 : 2 ^ (K - j) = 2 ^ ((K - j - 1) + 1) := by congr 1; omega
            rw [h2, Nat.pow_succ, ← hHj]; omega
          have hHp : 1 ≤ Hj := by rw [hHj]; exact Nat.two_pow_pos _
          have hHm : Hj ≤ 65536 := by rw [hHj]; exact two_pow_le (by omega)
          rw [← hrows] at hct hlr
          have hrl : rows.length = Hj := by rw [hrows, prsr_len, HWL.out j (by omega), hpw]; omega
          rw [hrl] at hct
          have hfr : FitsR rows := by rw [hrows]; exact prsr_fitsR (HWF.out j)
          obtain ⟨ps, hps⟩ : ∃ ps, ps = mdz A Hj := ⟨_, rfl⟩
          have HWI : Hid (Calls Tryz.prog 93 #[.slice (some ⟨gA, 0, none⟩) a a, .int .i64 (Hj : Int)] wr fun e w' => ∃ v, e = .returned v ∧ w'.ownsRow wr.heap.size 3 1 v ps.length (ps.map (Value.int .i64)) ∧ Below wr.heap.size wr w') := by
            obtain ⟨ax, cx, hx, hnx⟩ := hUo.pls
            injection hx with e5 _ e6
            subst e5 e6
            have := within_any a Hj (some ⟨gA, 0, none⟩) A wr (by omega) hHm (by rw [HAL.out]; omega) HAZ.out hnx.1
            rw [HAL.out] at this
            rw [hps]
            exact this
          have hpsl : ps.length ≤ 64 := by
            have := mdz_len A Hj
            rw [HAL.out] at this
            rw [hps]
            omega
          have HJE := hid (⟨hrows, hHj, hps, hrl⟩ : rows = prsr (mks q n K r t word D j).1 ∧ Hj = 2 ^ (K - j - 1) ∧ ps = mdz A Hj ∧ rows.length = Hj)
          have HFR := hid hfr
          have HPL := hid hpsl
          clear hUo hlr hrows hHj hpw hps hrl hfr hpsl
          go_wp2_with fail
          refine HWI.out.mono ?_
          rintro e w5 ⟨v5, rfl, ho5, hb5⟩
          obtain ⟨a5, c5, hv5, hn5⟩ := numL_of_owns ho5
          subst hv5
          have HU5 := hid (hU.out.step hb5)
          have HOP : Hid (Calls Tryz.prog 92 #[.pointer (some ⟨s, 0, none⟩), .slice ar Hj cr, .slice a5 ps.length c5] w5 (OpnR q n rows ps w5)) := by
            have hE := HJE.out
            have hsp : SpgAt w5 s bs q n dd := HH.out.sp.below (gb_to HU5.out.gb HH.out.N0c (by have := HH.out.N0c; omega)) HH.out.sN HH.out.bN
            obtain ⟨gt', ctt', ar', cr', hvt', hct', hlr'⟩ := HU5.out.trs.at (j := j) (by rw [mkTr_len]; exact hji)
            injection hvt' with hvt1 _ _
            injection hvt1 with hvt1
            injection hvt1 with hvt1 _ _
            subst hvt1
            rw [mkTr_tat hji, ← hE.1] at hct' hlr'
            have hcc := (hb5.cell (p := ⟨gt, j, none⟩) (World.block_lt_of_cell? _ _ hct)).trans hct
            rw [hct', hE.2.2.2] at hcc
            injection hcc with hcc
            injection hcc with hc1 _ hc3
            subst hc1 hc3
            have := open_any q n dd bs s cr' c5 ar' a5 rows ps w5 HH.out.ok hsp (by omega) (by omega) (by have := HPL.out; omega) HFR.out hlr'.lst hn5.1.row (by rw [hE.2.2.1, hE.2.2.2]; exact mdz_any (by omega))
            rwa [hE.2.2.2] at this
          clear ho5 hb5 hn5 HWI
          go_wp2_with fail
          refine HOP.out.mono ?_
          rintro e w6 ⟨os, ap', ar', an', cp', cr', cn', rfl, hos, hs1, hs2, hs3, hb6⟩
          have hosE : os = ps := by
            have hE := HJE.out
            rw [hE.2.2.1] at hos ⊢
            exact once_mdz hos
          subst hosE
          have HU6 := hid (HU5.out.step hb6)
          obtain ⟨z, hz⟩ : ∃ z : OnZ, z = mko q n K r t word D i a j := ⟨_, rfl⟩
          have hz1 : z.ps = os := by
            have hE := HJE.out
            rw [hz, hE.2.2.1, HAE.out, hE.2.1]
            rfl
          have hz2 : z.rows = shw q rows os := by
            have hE := HJE.out
            have h7 : z.rows = shw q (mkt q n K r t word D j) z.ps := by rw [hz]; rfl
            rw [h7, hz1, mkt, ← prsr_map, shw_elr, hE.1]
          have hz3 : z.nodes = ndf q n rows.length rows os 0 := by
            have hE := HJE.out
            have h7 : z.nodes = ndf q n (mkt q n K r t word D j).length (mkt q n K r t word D j) z.ps 0 := by rw [hz]; rfl
            rw [h7, hz1, mkt, ← prsr_map, ndf_elr, List.length_map, hE.1]
          rw [← hz1] at hs1
          rw [← hz2] at hs2
          rw [← hz3] at hs3
          rw [← hz2, ← hz3, ← hz1]
          obtain ⟨n1, hn1⟩ : ∃ n1, n1 = z.ps.length := ⟨_, rfl⟩
          obtain ⟨n2, hn2⟩ : ∃ n2, n2 = z.rows.length := ⟨_, rfl⟩
          obtain ⟨n3, hn3⟩ : ∃ n3, n3 = z.nodes.length := ⟨_, rfl⟩
          rw [← hn1] at hs1 ⊢
          rw [← hn2] at hs2 ⊢
          rw [← hn3] at hs3 ⊢
          have hba : Below w6.heap.size w6 (w6.alloc (.cells #[.slice ap' n1 cp', .slice ar' n2 cr', .slice an' n3 cn'] 107)) := (Below.refl _ _).alloc (Nat.le_refl _) _
          obtain ⟨W6, hW6⟩ : ∃ W6, W6 = w6.alloc (.cells #[.slice ap' n1 cp', .slice ar' n2 cr', .slice an' n3 cn'] 107) := ⟨_, rfl⟩
          have HWE := hid hW6
          have HWO : Hid (W6.heap[w6.heap.size]? = some (.cells #[.slice ap' n1 cp', .slice ar' n2 cr', .slice an' n3 cn'] 107 (0, 0))) := by unfold Hid; rw [hW6]; exact heap_alloc_new w6 _
          rw [← hW6] at hba
          have HU7 := hid (HU6.out.step hba)
          have d2 := thr2 HU7.out.out
          have HT1 := hid (hs1.keep hba)
          have HT2 := hid ((hs2.keep hba).mono (Nat.zero_le _))
          have HT3 := hid ((hs3.keep hba).mono (Nat.zero_le _))
          have HZ := hid hz
          have hbs : w.heap.size ≤ W6.heap.size := HU7.out.gb.size
          have HLN : Hid ((mkOi q n K r t word D i a j).length + 1 ≤ 1000) := by unfold Hid; rw [mkOi_len]; omega
          clear hos hs1 hs2 hs3 hb6 hba HU5 HU6 hz hz1 hz2 hz3 hn1 hn2 hn3 HOP hct
          clear HWE HWO
          subst hW6
          go_wp2_with (at_builtin; refine wpList_on1 (w6.alloc (.cells #[.slice ap' n1 cp', .slice ar' n2 cr', .slice an' n3 cn'] 107)) w.heap.size rfl _ _ rfl _ _ _ _ (mkOi q n K r t word D i a j) z HU7.out.ops HT1.out HT2.out HT3.out rfl (by rw [show (w6.alloc (.cells #[.slice ap' n1 cp', .slice ar' n2 cr', .slice an' n3 cn'] 107)).heap.size = w6.heap.size + 1 from by simp]; rfl) (by have := HLN.out; omega) hbs ?_)
          intro v3' w8 ho8 hb8 hz8 hns8
          obtain ⟨ax8, cx8, hv8, _⟩ := ho8.lst
          obtain ⟨nx8, hnx8⟩ : ∃ nx8, nx8 = (mkOi q n K r t word D i a j ++ [z]).length := ⟨_, rfl⟩
          rw [← hnx8] at hv8
          subst hv8
          clear hnx8
          obtain ⟨ho9, hU9⟩ := HU7.out.app ho8 hb8 (by simpa using hz8) (fun b c t f hg hne => hns8 b c t f.1 f.2 hg hne)
          rw [HZ.out, ← mkOi_succ] at hU9
          have HU9 := hid hU9
          have d2' := thr2 ho9
          have y2 := thrF ho9 2
          clear ho8 hb8 hz8 hns8 ho9 hU9 HU7 HT1 HT2 HT3 d2
          go_wp2_with fail
          go_roundw
          case rel => exact ⟨j + 1, .slice ax8 nx8 cx8, by omega, rfl, by go_num, HU9.out⟩
          case measure => simp [intOf]; omega
        · obtain rfl : j = i := by omega
          have hji2 : ¬ (j : Int) < (j : Int) := by omega
          obtain ⟨a3, c3, hv3, _⟩ := hU.out.ops.lst
          rw [mkOi_len] at hv3
          subst hv3
          have d0 := thr0 hU.out.out
          have d1' := thr1 hU.out.out
          have d2 := thr2 hU.out.out
          have y0 := thrF hU.out.out 0
          have y1' := thrF hU.out.out 1
          have y2 := thrF hU.out.out 2
          have HX := hid hU.out.same
          clear hU
          go_wp2_with fail
          (try simp only [Exit.inBlock, Exit.then])
          refine bodyPost_ret (results_cttS rfl _ _ w.heap.size 36 _ (0, 0) _ rfl HX.out.out Tryz.underlying36 rfl (by kernel_rfl)) rfl ?_
          obtain ⟨ax, cx, hx, hnx⟩ := HX.out.lst
          have ex1 : (some ⟨g, 0, none⟩ : Option Addr) = ax := by injection hx
          have ex2 : cL = cx := by injection hx
          subst ex1 ex2
          obtain ⟨ay, cy, hy, hny⟩ := HX.out.pls
          have ey1 : (some ⟨gA, 0, none⟩ : Option Addr) = ay := by injection hy
          have ey2 : a = cy := by injection hy
          subst ey1
          rw [← ey2] at hny
          have hR := HX.out.rts
          have hO := HX.out.ops
          have hP := HX.out.pc
          rw [HCL.out] at hP
          refine ⟨a1, c1, _, _, a3, c3, _, _, by rw [← HE.out.2]; rfl, hR, by rw [← HE.out.2]; exact hnx, hO, by rw [← HAE.out]; exact hny, by rw [← HE.out.2]; exact hP, HX.out.gb⟩

end Go.Proofs.YtfppkjpgihnibaaGreatDoor

namespace Go.Proofs.YtfppkjpgihnibaaGreatDoor
open Go.RowKit

/-- a chain's turn, or another's, leaves lists and Openings -/
theorem SlR.oneC {w w' : World} {r : List Int} {v : Value} {O : Nat} {cs : Array Value} {t : TypeId} {f : Nat × Nat} (h : SlR w r v) (hO : w.heap[O]? = some (.cells cs t f)) (ht : t = 94 ∨ t = 50 ∨ t = 36) (hs : w.heap.size ≤ w'.heap.size) (e : ∀ b, b < w.heap.size → b ≠ O → w'.heap[b]? = w.heap[b]?) : SlR w' r v :=
  h.blocks hs (fun b hb hn => e b hb (by
    rintro rfl
    obtain ⟨c', t', f', h2, _, _, h3, h4, _, h5⟩ := hn
    rw [hO] at h2
    injection h2 with h2
    injection h2 with _ h2 _
    rcases ht with rfl | rfl | rfl
    · exact h3 h2.symm
    · exact h4 h2.symm
    · exact h5 h2.symm))
theorem OwnR.oneC {base : Nat} {w w' : World} {v : Value} {rs : List (List Int)} {O : Nat} {cs : Array Value} {t : TypeId} {f : Nat × Nat} (h : OwnR base w v rs) (hO : w.heap[O]? = some (.cells cs t f)) (ht : t = 94 ∨ t = 50 ∨ t = 36) (hs : w.heap.size ≤ w'.heap.size) (e : ∀ b, b < w.heap.size → b ≠ O → w'.heap[b]? = w.heap[b]?) : OwnR base w' v rs := by
  obtain ⟨vals, h1, h2⟩ := h
  refine ⟨vals, ⟨h1.1, ?_⟩, fun j hj => ?_⟩
  · rcases h1.2 with hn | ⟨g, cap, cur, rfl, hb, hg, rest⟩
    · exact .inl hn
    · refine .inr ⟨g, cap, cur, rfl, hb, (e g (Array.getElem?_eq_some_iff.1 hg).1 ?_).trans hg, rest⟩
      rintro rfl
      rw [hO] at hg
      injection hg with hg
      injection hg with _ h3 _
      rcases ht with rfl | rfl | rfl <;> exact absurd h3 (by decide)
  · obtain ⟨u, h3, h4⟩ := h2 j hj
    exact ⟨u, h3, h4.oneC hO ht hs e⟩
theorem OwnF.oneC {base : Nat} {w w' : World} {v : Value} {os : List OnZ} {O : Nat} {cs : Array Value} {t : TypeId} {f : Nat × Nat} (h : OwnF base w v os) (hO : w.heap[O]? = some (.cells cs t f)) (ht : t = 94 ∨ t = 50 ∨ t = 36) (hs : w.heap.size ≤ w'.heap.size) (e : ∀ b, b < w.heap.size → b ≠ O → w'.heap[b]? = w.heap[b]?) : OwnF base w' v os := by
  obtain ⟨vals, h1, h2⟩ := h
  refine ⟨vals, ⟨h1.1, ?_⟩, fun j hj => ?_⟩
  · rcases h1.2 with hn | ⟨g, cap, cur, rfl, hb, hg, rest⟩
    · exact .inl hn
    · refine .inr ⟨g, cap, cur, rfl, hb, (e g (Array.getElem?_eq_some_iff.1 hg).1 ?_).trans hg, rest⟩
      rintro rfl
      rw [hO] at hg
      injection hg with hg
      injection hg with _ h3 _
      rcases ht with rfl | rfl | rfl <;> exact absurd h3 (by decide)
  · obtain ⟨vp, vr, vn, e1, e2, e3, e4, e5, e6⟩ := h2 j hj
    exact ⟨vp, vr, vn, e1, e2, e3, e4.oneC hO ht hs e, e5.oneC hO ht hs e, e6.oneC hO ht hs e⟩
theorem OwnF.mono {base base' : Nat} {w : World} {v : Value} {os : List OnZ} (h : OwnF base w v os) (e : base' ≤ base) : OwnF base' w v os := by
  obtain ⟨vals, h1, h2⟩ := h
  refine ⟨vals, ⟨h1.1, ?_⟩, h2⟩
  rcases h1.2 with hn | ⟨g, cap, cur, rfl, hb, rest⟩
  · exact .inl hn
  · exact .inr ⟨g, cap, cur, rfl, Nat.le_trans e hb, rest⟩

/-- what Make stands on -/
structure FmkP (N0 q n dd b d s bs c K : Nat) (r t : Int) (word D : List Int) (aw : Option Addr) (cw : Nat) (w : World) : Prop where
  dm : DO w q b d (2 ^ K) r t
  ok : SpgOk q n dd
  sp : SpgAt w s bs q n dd
  sN : s < N0
  bN : bs < N0
  dN : d < N0
  fN : b < N0
  pc : PCh N0 q n w c D
  dg : Dig D
  hK : K ≤ 16
  wl : word.length ≤ 17592186043904
  wf : Fits word
  lw : Lst w.heap.size w aw cw word
theorem FmkP.below {N0 q n dd b d s bs c K : Nat} {r t : Int} {word D : List Int} {aw : Option Addr} {cw : Nat} {w w' : World} (h : FmkP N0 q n dd b d s bs c K r t word D aw cw w) (e : Below w.heap.size w w') : FmkP N0 q n dd b d s bs c K r t word D aw cw w' :=
  ⟨h.dm.step e, h.ok, h.sp.keep e, h.sN, h.bN, h.dN, h.fN, h.pc.below e, h.dg, h.hK, h.wl, h.wf, (h.lw.below e).mono e.size⟩

set_option maxRecDepth 100000 in
set_option maxHeartbeats 1000000 in
theorem fmake_show (N0 q n dd b d s bs c K cw : Nat) (r t k asked : Int) (aw : Option Addr) (word D : List Int) (w : World) (H : FmkP N0 q n dd b d s bs c K r t word D aw cw w) (hk1 : -9223372036854775808 ≤ k) (hk2 : k ≤ 9223372036854775807) (hz : ¬ fz5 (2 ^ K) k asked = 0) :
    Calls Tryz.prog 8 #[.pointer (some ⟨s, 0, none⟩), .pointer (some ⟨c, 0, none⟩), .pointer (some ⟨d, 0, none⟩), .int .i64 k, .slice aw word.length cw, .int .i64 asked] w fun e w' =>
      e = .returned (.tuple #[.agg #[.slice none 0 0, .slice none 0 0, .slice none 0 0], .slice none 0 0, .iface 86 (.int .i64 2)]) ∧ Below w.heap.size w w' := by
  obtain ⟨W0, hW0⟩ : ∃ W0, W0 = w.alloc (.cells #[.slice none 0 0, .slice none 0 0, .slice none 0 0] 36) := ⟨_, rfl⟩
  have hb0 : Below w.heap.size w W0 := by rw [hW0]; exact (Below.refl _ _).alloc (Nat.le_refl _) _
  have HRES : Hid (W0.heap[w.heap.size]? = some (.cells #[.slice none 0 0, .slice none 0 0, .slice none 0 0] 36 (0, 0))) := by unfold Hid; rw [hW0]; exact heap_alloc_new w _
  have HB0 := hid hb0
  have HMS := hid (mayshow_any (2 ^ K) d b r t k asked W0 (H.below hb0).dm.da (two_pow_le H.hK) hk1 hk2)
  rw [decide_eq_false hz] at HMS
  have HS := hid (set_same HRES.out)
  have HZ : Hid (Below W0.heap.size W0 (((W0.setCell ⟨w.heap.size, 0, none⟩ (.slice none 0 0)).setCell ⟨w.heap.size, 1, none⟩ (.slice none 0 0)).setCell ⟨w.heap.size, 2, none⟩ (.slice none 0 0))) := ⟨rfl, rfl, rfl, by simp [World.setCell], fun x _ => by
    by_cases hx : x = w.heap.size
    · rw [hx, HS.out, HRES.out]
    · rw [Below.heap_setCell _ _ _ _ hx, Below.heap_setCell _ _ _ _ hx, Below.heap_setCell _ _ _ _ hx]⟩
  have d0 := thr0 HRES.out
  have d1 := thr1 HRES.out
  have d2 := thr2 HRES.out
  have y0 := thrF HRES.out 0
  have y1 := thrF HRES.out 1
  have y2 := thrF HRES.out 2
  have HE : Hid (Below w.heap.size w (((W0.setCell ⟨w.heap.size, 0, none⟩ (.slice none 0 0)).setCell ⟨w.heap.size, 1, none⟩ (.slice none 0 0)).setCell ⟨w.heap.size, 2, none⟩ (.slice none 0 0))) := hb0.trans (HZ.out.mono hb0.size)
  clear H hz hb0 HZ
  go_enter Tryz.func8, Tryz.ntmps8
  go_wp2_with fail
  rw [← hW0]
  clear hW0
  refine HMS.out.mono ?_
  rintro e w1 ⟨rfl, rfl⟩
  go_wp2_with fail
  (try simp only [Exit.inBlock, Exit.then])
  refine bodyPost_ret (results_cttS rfl _ _ w.heap.size 36 #[.slice none 0 0, .slice none 0 0, .slice none 0 0] (0, 0) _ rfl HS.out Tryz.underlying36 rfl (by kernel_rfl)) rfl ?_
  exact ⟨rfl, HE.out⟩

set_option maxRecDepth 100000 in
set_option maxHeartbeats 1000000 in
theorem fmake_len (N0 q n dd b d s bs c K cw : Nat) (r t k asked : Int) (aw : Option Addr) (word D : List Int) (w : World) (H : FmkP N0 q n dd b d s bs c K r t word D aw cw w) (hk1 : -9223372036854775808 ≤ k) (hk2 : k ≤ 9223372036854775807) (hz : fz5 (2 ^ K) k asked = 0) (hl : word.length ≠ 2 ^ K) :
    Calls Tryz.prog 8 #[.pointer (some ⟨s, 0, none⟩), .pointer (some ⟨c, 0, none⟩), .pointer (some ⟨d, 0, none⟩), .int .i64 k, .slice aw word.length cw, .int .i64 asked] w fun e w' =>
      e = .returned (.tuple #[.agg #[.slice none 0 0, .slice none 0 0, .slice none 0 0], .slice none 0 0, .iface 86 (.int .i64 2)]) ∧ Below w.heap.size w w' := by
  obtain ⟨W0, hW0⟩ : ∃ W0, W0 = w.alloc (.cells #[.slice none 0 0, .slice none 0 0, .slice none 0 0] 36) := ⟨_, rfl⟩
  have hb0 : Below w.heap.size w W0 := by rw [hW0]; exact (Below.refl _ _).alloc (Nat.le_refl _) _
  have HRES : Hid (W0.heap[w.heap.size]? = some (.cells #[.slice none 0 0, .slice none 0 0, .slice none 0 0] 36 (0, 0))) := by unfold Hid; rw [hW0]; exact heap_alloc_new w _
  have HB0 := hid hb0
  have HMS := hid (mayshow_any (2 ^ K) d b r t k asked W0 (H.below hb0).dm.da (two_pow_le H.hK) hk1 hk2)
  rw [decide_eq_true hz] at HMS
  have HSZ := hid (size_any d b _ r t W0 (H.below hb0).dm.da)
  have hwl := H.wl
  have hne : ((word.length : Int) != ((2 ^ K : Nat) : Int)) = true := by rw [bne_iff_ne]; omega
  have HS := hid (set_same HRES.out)
  have HZ : Hid (Below W0.heap.size W0 (((W0.setCell ⟨w.heap.size, 0, none⟩ (.slice none 0 0)).setCell ⟨w.heap.size, 1, none⟩ (.slice none 0 0)).setCell ⟨w.heap.size, 2, none⟩ (.slice none 0 0))) := ⟨rfl, rfl, rfl, by simp [World.setCell], fun x _ => by
    by_cases hx : x = w.heap.size
    · rw [hx, HS.out, HRES.out]
    · rw [Below.heap_setCell _ _ _ _ hx, Below.heap_setCell _ _ _ _ hx, Below.heap_setCell _ _ _ _ hx]⟩
  have d0 := thr0 HRES.out
  have d1 := thr1 HRES.out
  have d2 := thr2 HRES.out
  have y0 := thrF HRES.out 0
  have y1 := thrF HRES.out 1
  have y2 := thrF HRES.out 2
  have HE : Hid (Below w.heap.size w (((W0.setCell ⟨w.heap.size, 0, none⟩ (.slice none 0 0)).setCell ⟨w.heap.size, 1, none⟩ (.slice none 0 0)).setCell ⟨w.heap.size, 2, none⟩ (.slice none 0 0))) := hb0.trans (HZ.out.mono hb0.size)
  clear H hz hb0 HZ hl
  generalize 2 ^ K = N at *
  go_enter Tryz.func8, Tryz.ntmps8
  go_wp2_with fail
  rw [← hW0]
  clear hW0
  refine HMS.out.mono ?_
  rintro e w1 ⟨rfl, rfl⟩
  go_wp2_with fail
  refine HSZ.out.mono ?_
  rintro e w1 ⟨rfl, rfl⟩
  go_wp2_with fail
  (try simp only [Exit.inBlock, Exit.then])
  refine bodyPost_ret (results_cttS rfl _ _ w.heap.size 36 #[.slice none 0 0, .slice none 0 0, .slice none 0 0] (0, 0) _ rfl HS.out Tryz.underlying36 rfl (by kernel_rfl)) rfl ?_
  exact ⟨rfl, HE.out⟩

set_option maxRecDepth 100000 in
set_option maxHeartbeats 1000000 in
theorem fmake_code (N0 q n dd b d s bs c K cw : Nat) (r t k asked : Int) (aw : Option Addr) (word D : List Int) (w : World) (H : FmkP N0 q n dd b d s bs c K r t word D aw cw w) (hk1 : -9223372036854775808 ≤ k) (hk2 : k ≤ 9223372036854775807) (hz : fz5 (2 ^ K) k asked = 0) (hl : word.length = 2 ^ K) (hi : ¬ ((bk q (2 ^ K) r t word).length : Int) ≤ k) :
    Calls Tryz.prog 8 #[.pointer (some ⟨s, 0, none⟩), .pointer (some ⟨c, 0, none⟩), .pointer (some ⟨d, 0, none⟩), .int .i64 k, .slice aw word.length cw, .int .i64 asked] w fun e w' =>
      e = .returned (.tuple #[.agg #[.slice none 0 0, .slice none 0 0, .slice none 0 0], .slice none 0 0, .iface 86 (.int .i64 3)]) ∧ Below w.heap.size w w' := by
  obtain ⟨W0, hW0⟩ : ∃ W0, W0 = w.alloc (.cells #[.slice none 0 0, .slice none 0 0, .slice none 0 0] 36) := ⟨_, rfl⟩
  have hb0 : Below w.heap.size w W0 := by rw [hW0]; exact (Below.refl _ _).alloc (Nat.le_refl _) _
  have HRES : Hid (W0.heap[w.heap.size]? = some (.cells #[.slice none 0 0, .slice none 0 0, .slice none 0 0] 36 (0, 0))) := by unfold Hid; rw [hW0]; exact heap_alloc_new w _
  have HB0 := hid hb0
  have HMS := hid (mayshow_any (2 ^ K) d b r t k asked W0 (H.below hb0).dm.da (two_pow_le H.hK) hk1 hk2)
  rw [decide_eq_true hz] at HMS
  have HSZ := hid (size_any d b _ r t W0 (H.below hb0).dm.da)
  have HIS := hid (is_all (H.below hb0).dm k aw cw word hk1 hk2 H.wf (H.below hb0).lw)
  rw [decide_eq_false (fun h => hi h.2.2.2), hl] at HIS
  have hwl : 2 ^ K ≤ 65536 := two_pow_le H.hK
  have hne : (((2 ^ K : Nat) : Int) != ((2 ^ K : Nat) : Int)) = false := by simp
  rw [hl]
  have d0 := thr0 HRES.out
  have d1 := thr1 HRES.out
  have d2 := thr2 HRES.out
  have y0 := thrF HRES.out 0
  have y1 := thrF HRES.out 1
  have y2 := thrF HRES.out 2
  clear H hz hl hi hb0
  generalize 2 ^ K = N at *
  go_enter Tryz.func8, Tryz.ntmps8
  go_wp2_with fail
  rw [← hW0]
  clear hW0
  refine HMS.out.mono ?_
  rintro e w1 ⟨rfl, rfl⟩
  go_wp2_with fail
  refine HSZ.out.mono ?_
  rintro e w1 ⟨rfl, rfl⟩
  go_wp2_with fail
  refine HIS.out.mono ?_
  rintro e w2 ⟨rfl, hb2⟩
  have hR2 := (hb2.block _ (Array.getElem?_eq_some_iff.1 HRES.out).1).trans HRES.out
  clear d0 d1 d2 y0 y1 y2
  have d0 := thr0 hR2
  have d1 := thr1 hR2
  have d2 := thr2 hR2
  have y0 := thrF hR2 0
  have y1 := thrF hR2 1
  have y2 := thrF hR2 2
  have HS := hid (set_same hR2)
  have HE : Hid (Below w.heap.size w (((w2.setCell ⟨w.heap.size, 0, none⟩ (.slice none 0 0)).setCell ⟨w.heap.size, 1, none⟩ (.slice none 0 0)).setCell ⟨w.heap.size, 2, none⟩ (.slice none 0 0))) :=
    (((HB0.out.trans (hb2.mono HB0.out.size)).setCell (p := ⟨w.heap.size, 0, none⟩) (Nat.le_refl _) _).setCell (p := ⟨w.heap.size, 1, none⟩) (Nat.le_refl _) _).setCell (p := ⟨w.heap.size, 2, none⟩) (Nat.le_refl _) _
  clear hb2 hR2 HIS HMS HSZ
  go_wp2_with fail
  (try simp only [Exit.inBlock, Exit.then])
  refine bodyPost_ret (results_cttS rfl _ _ w.heap.size 36 #[.slice none 0 0, .slice none 0 0, .slice none 0 0] (0, 0) _ rfl HS.out Tryz.underlying36 rfl (by kernel_rfl)) rfl ?_
  exact ⟨rfl, HE.out⟩

theorem five_put {W : World} {g : Nat} {a b c d x : Value} {t : TypeId} (h : W.heap[g]? = some (.cells #[a, b, c, d, x] t (0, 0))) (a' b' c' d' x' : Value) : (((((W.setCell ⟨g, 0, none⟩ a').setCell ⟨g, 1, none⟩ b').setCell ⟨g, 2, none⟩ c').setCell ⟨g, 3, none⟩ d').setCell ⟨g, 4, none⟩ x').heap[g]? = some (.cells #[a', b', c', d', x'] t (0, 0)) := by
  simp [World.setCell, Array.getElem?_modify, h]
theorem five_oth (W : World) (g k : Nat) (h : k ≠ g) (a' b' c' d' x' : Value) : (((((W.setCell ⟨g, 0, none⟩ a').setCell ⟨g, 1, none⟩ b').setCell ⟨g, 2, none⟩ c').setCell ⟨g, 3, none⟩ d').setCell ⟨g, 4, none⟩ x').heap[k]? = W.heap[k]? := by
  rw [Below.heap_setCell _ _ _ _ h, Below.heap_setCell _ _ _ _ h, Below.heap_setCell _ _ _ _ h, Below.heap_setCell _ _ _ _ h, Below.heap_setCell _ _ _ _ h]
theorem fiveF {W : World} {g : Nat} {a b c d x : Value} {t : TypeId} (h : W.heap[g]? = some (.cells #[a, b, c, d, x] t (0, 0))) (i : Nat) : W.frozen? ⟨g, i, none⟩ = false := by simp [World.frozen?, h]
theorem thr_put {W : World} {B : Nat} {t : TypeId} {a b c : Value} (h : W.heap[B]? = some (.cells #[a, b, c] t (0, 0))) (a' b' c' : Value) : (((W.setCell ⟨B, 0, none⟩ a').setCell ⟨B, 1, none⟩ b').setCell ⟨B, 2, none⟩ c').heap[B]? = some (.cells #[a', b', c'] t (0, 0)) :=
  tri_arr (tri_set2 (tri_set1 (tri_set0 (thr_row h) a') b') c')
theorem thr_oth (W : World) (g k : Nat) (h : k ≠ g) (a' b' c' : Value) : (((W.setCell ⟨g, 0, none⟩ a').setCell ⟨g, 1, none⟩ b').setCell ⟨g, 2, none⟩ c').heap[k]? = W.heap[k]? := by
  rw [Below.heap_setCell _ _ _ _ h, Below.heap_setCell _ _ _ _ h, Below.heap_setCell _ _ _ _ h]

/-- what Make holds behind made -/
structure FmkE (q n K m a : Nat) (r t : Int) (word D : List Int) (b1 b2 b3 ap : Option Addr) (d1 d2 d3 cp : Nat) (n0 : Nat) (W : World) : Prop where
  rts : OwnR n0 W (.slice b1 m d1) (mkR q n K r t word D m)
  lst : NumL W b2 d2 (mkl q n K r t word D m)
  ops : OwnF n0 W (.slice b3 m d3) (mkO q n K r t word D m a)
  pls : NumL W ap cp (mkA q n K r t word D m a)
theorem FmkE.oneC {q n K m a : Nat} {r t : Int} {word D : List Int} {b1 b2 b3 ap : Option Addr} {d1 d2 d3 cp n0 : Nat} {W W' : World} {O : Nat} {cs : Array Value} {tt : TypeId} {f : Nat × Nat} (h : FmkE q n K m a r t word D b1 b2 b3 ap d1 d2 d3 cp n0 W) (hO : W.heap[O]? = some (.cells cs tt f)) (ht : tt = 94 ∨ tt = 50 ∨ tt = 36) (hs : W.heap.size ≤ W'.heap.size) (e : ∀ b, b < W.heap.size → b ≠ O → W'.heap[b]? = W.heap[b]?) : FmkE q n K m a r t word D b1 b2 b3 ap d1 d2 d3 cp n0 W' := by
  have k : KI W W' := KI.oth hO (by rcases ht with rfl | rfl | rfl <;> decide) (by rcases ht with rfl | rfl | rfl <;> decide) hs e
  exact ⟨h.rts.oneC hO ht hs e, h.lst.ki k, h.ops.oneC hO ht hs e, h.pls.ki k⟩
theorem FmkE.step {q n K m a : Nat} {r t : Int} {word D : List Int} {b1 b2 b3 ap : Option Addr} {d1 d2 d3 cp n0 : Nat} {W W' : World} (h : FmkE q n K m a r t word D b1 b2 b3 ap d1 d2 d3 cp n0 W) (e : Below W.heap.size W W') : FmkE q n K m a r t word D b1 b2 b3 ap d1 d2 d3 cp n0 W' :=
  ⟨h.rts.keep e, h.lst.ki (KI.below e), h.ops.keep e, h.pls.ki (KI.below e)⟩

set_option maxRecDepth 100000 in
set_option maxHeartbeats 4000000 in
theorem fmake_good (N0 q n dd b d s bs c K cw J a : Nat) (r t : Int) (aw : Option Addr) (word D : List Int) (w : World) (H : FmkP N0 q n dd b d s bs c K r t word D aw cw w) (hJ : J + 1 ≤ K) (ha1 : 1 ≤ a) (ha : a ≤ 64) (hl : word.length = 2 ^ K) (hi : (bk q (2 ^ K) r t word).length ≤ 2 ^ J) :
    Calls Tryz.prog 8 #[.pointer (some ⟨s, 0, none⟩), .pointer (some ⟨c, 0, none⟩), .pointer (some ⟨d, 0, none⟩), .int .i64 ((2 ^ J : Nat) : Int), .slice aw word.length cw, .int .i64 (a : Int)] w (FmdR N0 q n c K (J - 2) a r t word D w) := by
  obtain ⟨W0, hW0⟩ : ∃ W0, W0 = w.alloc (.cells #[.slice none 0 0, .slice none 0 0, .slice none 0 0] 36) := ⟨_, rfl⟩
  have hb0 : Below w.heap.size w W0 := by rw [hW0]; exact (Below.refl _ _).alloc (Nat.le_refl _) _
  have HRES : Hid (W0.heap[w.heap.size]? = some (.cells #[.slice none 0 0, .slice none 0 0, .slice none 0 0] 36 (0, 0))) := by unfold Hid; rw [hW0]; exact heap_alloc_new w _
  have HB0 := hid hb0
  have hK := H.hK
  have hJ2 : 2 ^ J ≤ 65536 := two_pow_le (by omega)
  have hJp : 0 < 2 ^ J := Nat.two_pow_pos _
  have hJK : 2 ^ J ≤ 2 ^ K := Nat.pow_le_pow_right (by omega) (by omega)
  have H0 := hid (H.below hb0)
  have HMS := hid (mayshow_any (2 ^ K) d b r t ((2 ^ J : Nat) : Int) (a : Int) W0 H0.out.dm.da (two_pow_le hK) (by omega) (by omega))
  rw [decide_eq_true (fz5_ok hK hJ ha1 ha)] at HMS
  have HSZ := hid (size_any d b _ r t W0 H0.out.dm.da)
  have HIS := hid (is_all H0.out.dm ((2 ^ J : Nat) : Int) aw cw word (by omega) (by omega) H.wf H0.out.lw)
  rw [decide_eq_true (⟨by omega, by omega, hl, by omega⟩ : 1 ≤ ((2 ^ J : Nat) : Int) ∧ ((2 ^ J : Nat) : Int) ≤ ((2 ^ K : Nat) : Int) ∧ word.length = 2 ^ K ∧ ((bk q (2 ^ K) r t word).length : Int) ≤ ((2 ^ J : Nat) : Int))] at HIS
  have HLW : Hid (Lst w.heap.size w aw cw word) := H.lw
  have hcl := H.pc.lt
  have hcg := H.pc.ge
  have HP := hid H
  obtain ⟨wl, hwl⟩ : ∃ wl, wl = word.length := ⟨_, rfl⟩
  have hwl2 : wl ≤ 65536 := by rw [hwl, hl]; exact two_pow_le hK
  rw [← hl, ← hwl] at HSZ
  rw [← hwl] at HIS
  have hne : ((wl : Int) != (wl : Int)) = false := by simp
  have HDM := hid (fun (W : World) (h : DO W q b d (2 ^ K) r t) => domains_any q b d K J r t W h hK hJ)
  have HFM := hid (fun (c' co : Nat) (ds : List Nat) (go : Nat) (W : World) (h : MdP w.heap.size N0 q n dd b s bs c' K (J - 2) r t word D aw cw ds go W) (hco : J - 2 + 1 ≤ co) => fmade_any w.heap.size N0 q n dd b s bs c' K (J - 2) a cw co r t aw word D ds go W h hco ha1 ha)
  rw [← hwl] at HFM ⊢
  obtain ⟨m, hm⟩ : ∃ m, m = J - 2 := ⟨_, rfl⟩
  have hm16 : m ≤ 16 := by omega
  have hmK : m + 1 ≤ K := by omega
  rw [← hm] at HDM HFM ⊢
  obtain ⟨NJ, hNJ⟩ : ∃ NJ, NJ = 2 ^ J := ⟨_, rfl⟩
  rw [← hNJ] at HMS HIS HDM hJ2 ⊢
  have HWL : Hid (word.length = 2 ^ K) := hl
  clear H hb0 hl hi hwl hm hNJ hJp hJK
  go_enter Tryz.func8, Tryz.ntmps8
  go_wp2_with fail
  rw [← hW0]
  clear hW0
  refine HMS.out.mono ?_
  rintro e w1 ⟨rfl, rfl⟩
  go_wp2_with fail
  refine HSZ.out.mono ?_
  rintro e w1 ⟨rfl, rfl⟩
  go_wp2_with fail
  refine HIS.out.mono ?_
  rintro e w2 ⟨rfl, hb2⟩
  have H2 := hid (H0.out.below hb2)
  have HB2 := hid (HB0.out.trans (hb2.mono HB0.out.size))
  have HR2 := hid ((hb2.block _ (Array.getElem?_eq_some_iff.1 HRES.out).1).trans HRES.out)
  have HFK := hid (cfork_any N0 q n c D w2 H2.out.pc)
  clear hb2 HIS HMS HSZ H0 HB0 HRES
  go_wp2_with fail
  refine HFK.out.mono ?_
  rintro e w3 ⟨c', rfl, hc', hp3, hb3⟩
  have H3 := hid (H2.out.below hb3)
  have HB3 := hid (HB2.out.trans (hb3.mono HB2.out.size))
  have HR3 := hid ((hb3.block _ (Array.getElem?_eq_some_iff.1 HR2.out).1).trans HR2.out)
  have HP3 := hid hp3
  have HC3 : Hid (w2.heap.size ≤ c' ∧ c' < w3.heap.size ∧ w.heap.size < w2.heap.size) := ⟨hc', hp3.lt, (Array.getElem?_eq_some_iff.1 HR2.out).1⟩
  have HD3 := hid (HDM.out w3 H3.out.dm)
  clear hc' hp3 hb3 HFK H2 HB2 HR2 HDM
  go_wp2_with fail
  refine HD3.out.mono ?_
  rintro e w4 ⟨v4, ds, rfl, ho4, hdl, hd0, hdi, hb4⟩
  obtain ⟨go, co, hv4, hgo, hgl, _, _, hroom, hcells⟩ := ho4.form (by rw [hdl.len]; omega)
  rw [hdl.len] at hv4 hroom hcells
  subst hv4
  have HB4 := hid (HB3.out.trans (hb4.mono HB3.out.size))
  have HR4 := hid ((hb4.block _ (Array.getElem?_eq_some_iff.1 HR3.out).1).trans HR3.out)
  have HM4 : Hid (MdP w.heap.size N0 q n dd b s bs c' K m r t word D aw cw ds go w4) := by
    have h3 := H3.out
    have hC := HC3.out
    have h4 := h3.below hb4
    exact ⟨h3.ok, h4.sp, h3.sN, h3.bN, HP3.out.below hb4, h3.dg, by omega, by omega, hdl, fun i hi => by
      by_cases h0 : i = 0
      · rw [h0, hd0]; have := h3.dN; omega
      · have := hdi i (by omega) hi; omega, by have := h3.fN; omega, fun k hk => hcells k (by omega), by omega, hK, hmK, HWL.out, h3.wf, HLW.out.below HB4.out, by rw [hd0]; exact h3.dN⟩
  have HPC4 := hid (H3.out.below hb4).pc
  have HF4 := hid (HFM.out c' co ds go w4 HM4.out hroom)
  clear ho4 hdl hd0 hdi hb4 hgo hgl hroom hcells HD3 HFM H3 HB3 HR3 HP3
  go_wp2_with fail
  refine HF4.out.mono ?_
  rintro e w5 ⟨b1, d1, b2, d2, b3, d3, ap, cp, rfl, g1, g2, g3, g4, g5, hg5⟩
  have hz4 : w.heap.size ≤ w4.heap.size := HB4.out.size
  have hcc : c ≠ c' := by have := HC3.out; omega
  have HB5 : Hid (Below w.heap.size w w5) := HB4.out.trans (gb_to hg5 (by have := HC3.out; omega) hz4)
  have HR5 := hid ((gb_blk hg5 (Array.getElem?_eq_some_iff.1 HR4.out).1 (by have := HC3.out; omega)).trans HR4.out)
  have HE5 : Hid (FmkE q n K m a r t word D b1 b2 b3 ap d1 d2 d3 cp w.heap.size w5) := ⟨g1.mono hz4, g2, g3.mono hz4, g4⟩
  have HQ5 := hid g5
  have HPC5 : Hid (PCh N0 q n w5 c D) := HPC4.out.blocks (gb_blk hg5 HPC4.out.lt hcc) (fun x hx => gb_blk hg5 (by have := HPC4.out.lt; have := HPC4.out.ge; omega) (by have := HC3.out; omega))
  clear g1 g2 g3 g4 g5 hg5 HF4 HB4 HR4 HPC4
  obtain ⟨nL, hnL⟩ : ∃ nL, nL = (mkl q n K r t word D m).length := ⟨_, rfl⟩
  rw [← hnL]
  have HNL := hid hnL
  clear hnL
  obtain ⟨W6, hW6⟩ : ∃ W6, W6 = w5.alloc (.cells #[.slice b1 m d1, .slice b2 nL d2, .slice b3 m d3] 36) := ⟨_, rfl⟩
  have hb6 : Below w5.heap.size w5 W6 := by rw [hW6]; exact (Below.refl _ _).alloc (Nat.le_refl _) _
  have HO6 : Hid (W6.heap[w5.heap.size]? = some (.cells #[.slice b1 m d1, .slice b2 nL d2, .slice b3 m d3] 36 (0, 0))) := by unfold Hid; rw [hW6]; exact heap_alloc_new w5 _
  have HE6 := hid (HE5.out.step hb6)
  have HQ6 := hid (HQ5.out.below hb6)
  have HPC6 := hid (HPC5.out.below hb6)
  have HR6 := hid ((hb6.block _ (Array.getElem?_eq_some_iff.1 HR5.out).1).trans HR5.out)
  have HB6 := hid (HB5.out.trans (hb6.mono HB5.out.size))
  obtain ⟨D5, hD5⟩ : ∃ D5, D5 = pld q n a (ckL q n (mkR q n K r t word D m) (mkl q n K r t word D m) D m) := ⟨_, rfl⟩
  rw [← hD5] at HQ6
  have HD5 := hid hD5
  obtain ⟨s', b', e', ok', sp', sN', bN', _, blk'⟩ := HQ6.out
  obtain ⟨s2, _, _, _, _, _, _, _, blk⟩ := HPC6.out
  have hne5 : w5.heap.size ≠ c := by have := HPC5.out.lt; omega
  have hneB : w.heap.size ≠ c := by omega
  have HP7 : Hid (PCh N0 q n (((((W6.setCell ⟨c, 0, none⟩ (.pointer (some ⟨s', 0, none⟩))).setCell ⟨c, 1, none⟩ (.int .i64 (zat D5 0))).setCell ⟨c, 2, none⟩ (.int .i64 (zat D5 1))).setCell ⟨c, 3, none⟩ (.int .i64 (zat D5 2))).setCell ⟨c, 4, none⟩ (.int .i64 (zat D5 3))) c D5) :=
    ⟨s', b', e', ok', sp'.blocks (five_oth _ _ _ (by omega) _ _ _ _ _) (five_oth _ _ _ (by omega) _ _ _ _ _), sN', bN', hcg, five_put blk _ _ _ _ _⟩
  have HE7 := hid (HE6.out.oneC (W' := ((((W6.setCell ⟨c, 0, none⟩ (.pointer (some ⟨s', 0, none⟩))).setCell ⟨c, 1, none⟩ (.int .i64 (zat D5 0))).setCell ⟨c, 2, none⟩ (.int .i64 (zat D5 1))).setCell ⟨c, 3, none⟩ (.int .i64 (zat D5 2))).setCell ⟨c, 4, none⟩ (.int .i64 (zat D5 3))) blk (.inl rfl) (by simp [World.setCell]) (fun x _ hx => five_oth _ _ _ hx _ _ _ _ _))
  have HO7 := hid ((five_oth W6 c w5.heap.size hne5 (.pointer (some ⟨s', 0, none⟩)) (.int .i64 (zat D5 0)) (.int .i64 (zat D5 1)) (.int .i64 (zat D5 2)) (.int .i64 (zat D5 3))).trans HO6.out)
  have HR7 := hid ((five_oth W6 c w.heap.size hneB (.pointer (some ⟨s', 0, none⟩)) (.int .i64 (zat D5 0)) (.int .i64 (zat D5 1)) (.int .i64 (zat D5 2)) (.int .i64 (zat D5 3))).trans HR6.out)
  have HG7 : Hid (w.grownBy (((((W6.setCell ⟨c, 0, none⟩ (.pointer (some ⟨s', 0, none⟩))).setCell ⟨c, 1, none⟩ (.int .i64 (zat D5 0))).setCell ⟨c, 2, none⟩ (.int .i64 (zat D5 1))).setCell ⟨c, 3, none⟩ (.int .i64 (zat D5 2))).setCell ⟨c, 4, none⟩ (.int .i64 (zat D5 3))) (some c)) :=
    ⟨HB6.out.os, HB6.out.tape, HB6.out.output, by have := HB6.out.size; simpa [World.setCell] using this, fun x hx hne => (five_oth _ _ _ (fun h => hne (by rw [h])) _ _ _ _ _).trans (HB6.out.block x hx)⟩
  have x0 := five0 blk'
  have x1 := five1 blk'
  have x2 := five2 blk'
  have x3 := five3 blk'
  have x4 := five4 blk'
  have z0 := five0 blk
  have z1 := five1 blk
  have z2 := five2 blk
  have z3 := five3 blk
  have z4 := five4 blk
  have f0 := fiveF blk 0
  have f1 := fiveF blk 1
  have f2 := fiveF blk 2
  have f3 := fiveF blk 3
  have f4 := fiveF blk 4
  generalize zat D5 0 = p0 at *
  generalize zat D5 1 = p1 at *
  generalize zat D5 2 = p2 at *
  generalize zat D5 3 = p3 at *
  obtain ⟨W7, hW7⟩ : ∃ W7, W7 = ((((W6.setCell ⟨c, 0, none⟩ (.pointer (some ⟨s', 0, none⟩))).setCell ⟨c, 1, none⟩ (.int .i64 p0)).setCell ⟨c, 2, none⟩ (.int .i64 p1)).setCell ⟨c, 3, none⟩ (.int .i64 p2)).setCell ⟨c, 4, none⟩ (.int .i64 p3) := ⟨_, rfl⟩
  rw [← hW7] at HP7 HE7 HO7 HR7 HG7
  clear hb6 hD5 ok' sp' sN' bN' blk' blk HE5 HQ5 HPC5 HR5 HB5 HE6 HQ6 HPC6 HR6 HB6 HO6
  have u0 := thr0 HO7.out
  have u1 := thr1 HO7.out
  have u2 := thr2 HO7.out
  have v0 := thr0 HR7.out
  have v1 := thr1 HR7.out
  have v2 := thr2 HR7.out
  have g0 := thrF HR7.out 0
  have g1 := thrF HR7.out 1
  have g2 := thrF HR7.out 2
  have HR8 := hid (thr_put HR7.out (.slice b1 m d1) (.slice b2 nL d2) (.slice b3 m d3))
  have HE8 := hid (HE7.out.oneC (W' := ((W7.setCell ⟨w.heap.size, 0, none⟩ (.slice b1 m d1)).setCell ⟨w.heap.size, 1, none⟩ (.slice b2 nL d2)).setCell ⟨w.heap.size, 2, none⟩ (.slice b3 m d3)) HR7.out (.inr (.inr rfl)) (by simp [World.setCell]) (fun x _ hx => thr_oth _ _ _ hx _ _ _))
  have HP8 : Hid (PCh N0 q n (((W7.setCell ⟨w.heap.size, 0, none⟩ (.slice b1 m d1)).setCell ⟨w.heap.size, 1, none⟩ (.slice b2 nL d2)).setCell ⟨w.heap.size, 2, none⟩ (.slice b3 m d3)) c D5) := HP7.out.blocks (thr_oth _ _ _ (by omega) _ _ _) (fun x hx => thr_oth _ _ _ (by omega) _ _ _)
  have HG8 : Hid (w.grownBy (((W7.setCell ⟨w.heap.size, 0, none⟩ (.slice b1 m d1)).setCell ⟨w.heap.size, 1, none⟩ (.slice b2 nL d2)).setCell ⟨w.heap.size, 2, none⟩ (.slice b3 m d3)) (some c)) := gb_far (gb_far (gb_far HG7.out (Nat.le_refl _) _ _) (Nat.le_refl _) _ _) (Nat.le_refl _) _ _
  clear HE7 HP7 HG7 HO7 HR7
  subst hW7
  subst hW6
  go_wp2_with fail
  (try simp only [Exit.inBlock, Exit.then])
  refine bodyPost_ret (results_cttS rfl _ _ w.heap.size 36 #[.slice b1 m d1, .slice b2 nL d2, .slice b3 m d3] (0, 0) _ rfl HR8.out Tryz.underlying36 rfl (by kernel_rfl)) rfl ?_
  have hD5 := HD5.out
  refine ⟨b1, d1, b2, d2, b3, d3, ap, cp, by rw [← HNL.out]; rfl, HE8.out.rts, HE8.out.lst, HE8.out.ops, HE8.out.pls, ?_, HG8.out⟩
  rw [← hD5]
  exact HP8.out

end Go.Proofs.YtfppkjpgihnibaaGreatDoor
