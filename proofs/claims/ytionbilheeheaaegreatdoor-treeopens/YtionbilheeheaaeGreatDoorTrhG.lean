/- Package tree: Open: what stands in memory while it goes on; its errors. -/
import Derived.Test.YtionbilheeheaaeGreatDoorTrhF
namespace Go.Proofs.YtionbilheeheaaeGreatDoor
open Go.RowKit

theorem results_ct {P : Program} {fn : Func} {p u : Tmp} {ty : TypeId} (h : fn.results = #[.cell p ty, .tmp u]) (tmps : Array Value) (w : World) (g : Nat) (tt : TypeId) (cs : Array Value) (fr : Nat × Nat) (d : TypeDesc)
    (hp : tmps.getD p undef = .pointer (some ⟨g, 0, none⟩)) (hg : w.heap[g]? = some (.cells cs tt fr))
    (hu : P.underlying ty = some d) (hd : (match d with | .struct _ | .array _ _ => true | _ => false) = true) (hi : (P.info? ty).map (·.size) = some cs.size) :
    (results fn tmps).run P w = .ok (.tuple #[.agg cs, tmps.getD u undef]) w := by
  have hp' : tmps[p]?.getD undef = .pointer (some ⟨g, 0, none⟩) := by simpa using hp
  simp [results, h, hp', asAddr, run_loadVar_row w g tt ty cs fr d hg hu hd hi]

/-! ## an Opening and a map alone have turned -/
/-- of the blocks two alone have turned: an Opening, and what is no cells -/
def NotC (w : World) (B : Nat) : Prop := ∀ c t f, w.heap[B]? ≠ some (.cells c t f)
theorem SlR.pair {w w' : World} {O B : Nat} {u : Value} {r : List Int} (h : SlR w r u) (hO : ∃ c f, w.heap[O]? = some (.cells c 33 f)) (hB : B = O ∨ NotC w B) (hp : Pair O B w w') : SlR w' r u :=
  h.blocks hp.size (fun b hb hn => by
    have h1 := ne_O hO hn
    refine hp.block b hb h1 ?_
    rcases hB with rfl | hB
    · exact h1
    · rintro rfl
      obtain ⟨c, t, f, h2, _⟩ := hn
      exact hB c t f h2)
theorem OwnR.pair {base : Nat} {w w' : World} {O B : Nat} {u : Value} {rs : List (List Int)} (h : OwnR base w u rs) (hO : ∃ c f, w.heap[O]? = some (.cells c 33 f)) (hB : B = O ∨ NotC w B) (hp : Pair O B w w') : OwnR base w' u rs := by
  obtain ⟨vals, ⟨h0, h1⟩, h2⟩ := h
  refine ⟨vals, ⟨h0, ?_⟩, fun j hj => ?_⟩
  · rcases h1 with h1 | ⟨g, cap, cur, h3, h4, hg, h5⟩
    · exact .inl h1
    · have hgO : g ≠ O := by
        rintro rfl
        obtain ⟨c, f, h6⟩ := hO
        rw [hg] at h6
        injection h6 with h6
        injection h6 with _ h6 _
        exact absurd h6 (by decide)
      refine .inr ⟨g, cap, cur, h3, h4, (hp.block g (Array.getElem?_eq_some_iff.1 hg).1 hgO ?_).trans hg, h5⟩
      rcases hB with rfl | hB
      · exact hgO
      · rintro rfl
        exact hB _ _ _ hg
  · obtain ⟨x, h3, h4⟩ := h2 j hj
    exact ⟨x, h3, h4.pair hO hB hp⟩
theorem pair_gb {O B : Nat} {A w w' : World} (h : Pair O B A w) (hg : w.grownBy w' (some B)) : Pair O B A w' :=
  h.trans ⟨hg.os, hg.tape, hg.output, hg.size, fun k hk _ h2 => hg.block k hk (by intro e; injection e with e; exact h2 e)⟩
theorem pair_bl {O B : Nat} {A w w' : World} (h : Pair O B A w) (hg : Below A.heap.size w w') (hs : w.heap.size ≤ w'.heap.size) : Pair O B A w' :=
  ⟨hg.os.trans h.os, hg.tape.trans h.tape, hg.output.trans h.output, Nat.le_trans h.size hs, fun k hk h1 h2 => (hg.block k hk).trans (h.block k hk h1 h2)⟩
/-- append(out, c): what it comes to -/
theorem run_row1 (W : World) (base : Nat) (v u : Value) (rs : List (List Int)) (r : List Int) (hown : OwnR base W v rs) (hu : SlR W r u) (hlen : rs.length + 1 ≤ 5864062014805) (hbase : base ≤ W.heap.size) :
    ∃ v' w', (Builtin.append_ #[22, 22] 22 #[v, .slice (some ⟨W.heap.size, 0, none⟩) 1 1]).run Tryz.prog (W.alloc (.cells #[u] 23)) = .ok v' w' ∧ OwnR base w' v' (rs ++ [r]) ∧ Below base W w' ∧ (∀ b, b < W.heap.size → NotRow W b → w'.heap[b]? = W.heap[b]?) ∧ (∀ b, b < W.heap.size → some b ≠ v.ownBlock → w'.heap[b]? = W.heap[b]?) ∧ W.heap.size ≤ w'.heap.size := by
  obtain ⟨i0, hi, hz0, hz1, hz2⟩ := info_parts Tryz.infoSl
  have hbw : Below W.heap.size W (W.alloc (.cells #[u] 23)) := (Below.refl _ _).alloc (Nat.le_refl _) _
  have hown' := hown.keep hbw
  have howb := hown'.own
  obtain ⟨vals, h1, h2⟩ := hown'
  have hvl : vals.length = rs.length := by have := h1.1; omega
  obtain ⟨v', w2, hr, hown2, hgrow, _⟩ := run_append_own (P := Tryz.prog) (W.alloc (.cells #[u] 23)) base 22 22 23 i0 (.slice none 0 0) 1 24 Tryz.underlying22 hi hz0 hz1 hz2 rfl (by decide) v rs.length vals h1 ⟨W.heap.size, 0, none⟩ 1 1 [u] rfl
    (by
      intro j t hj
      match j, hj with
      | 0, hj => simp at hj; subst hj; simp [Addr.add])
    (by
      intro t ht
      rw [List.mem_singleton.1 ht]
      exact hu.one) (by unfold maxLen; omega) (by omega) (by simp; omega)
  have hsz : W.heap.size ≤ w2.heap.size := by have := hgrow.size; simp at this; omega
  have hB : Below base (W.alloc (.cells #[u] 23)) w2 := (Below.refl base _).grown hgrow (by simp; omega) (fun k hk => (howb k hk).1)
  have hN : ∀ b, b < (W.alloc (.cells #[u] 23)).heap.size → NotRow (W.alloc (.cells #[u] 23)) b → w2.heap[b]? = (W.alloc (.cells #[u] 23)).heap[b]? := fun b hb hn => hgrow.block b hb (fun e => (howb b e.symm).2.2 hn)
  refine ⟨v', w2, hr, ⟨vals ++ [u], by rw [List.length_append]; exact hown2, fun j hj => ?_⟩, (hbw.mono hbase).trans hB, fun b hb hn => ?_, fun b hb hne => ?_, hsz⟩
  · rw [List.length_append] at hj
    rw [rat_app rs [r] j]
    by_cases hjr : j < rs.length
    · rw [if_pos hjr, List.getElem?_append_left (by omega)]
      obtain ⟨u', e1, e2⟩ := h2 j hjr
      exact ⟨u', e1, e2.blocks hgrow.size hN⟩
    · rw [if_neg hjr, List.getElem?_append_right (by omega), hvl]
      obtain rfl : j = rs.length := by simp at hj; omega
      rw [Nat.sub_self]
      exact ⟨u, rfl, (hu.keep hbw).blocks hgrow.size hN⟩
  · have e := hbw.block b hb
    obtain ⟨c, t, f, h4, h5⟩ := hn
    exact (hN b (by simp; omega) ⟨c, t, f, e.trans h4, h5⟩).trans e
  · exact (hgrow.block b (by simp; omega) hne).trans (hbw.block b hb)

/-! ## what Open answers -/
def OpnR (q n : Nat) (rows : List (List Int)) (ps : List Int) (w : World) (e : Ending) (w' : World) : Prop :=
  ∃ os ap ar an' cp cr cn, e = .returned (.tuple #[.agg #[.slice ap os.length cp, .slice ar (shw q rows os).length cr, .slice an' (ndf q n rows.length rows os 0).length cn], .nilIface]) ∧ OnceIs ps os ∧ SlR w' os (.slice ap os.length cp) ∧ OwnR w.heap.size w' (.slice ar (shw q rows os).length cr) (shw q rows os) ∧ OwnR w.heap.size w' (.slice an' (ndf q n rows.length rows os 0).length cn) (ndf q n rows.length rows os 0) ∧ Below w.heap.size w w'

set_option maxRecDepth 100000 in
set_option maxHeartbeats 1000000 in
theorem open_size (s cap cp len lp : Nat) (a ap : Option Addr) (w : World) (h : ¬ (1 ≤ len ∧ len ≤ 65536)) (hl : len ≤ 281474976710656) :
    Calls Tryz.prog 8 #[.pointer (some ⟨s, 0, none⟩), .slice a len cap, .slice ap lp cp] w fun e w' => e = .returned (.tuple #[.agg #[.slice none 0 0, .slice none 0 0, .slice none 0 0], .iface 53 (.int .i64 2)]) ∧ Below w.heap.size w w' := by
  have hno : (decide (1 ≤ (len : Int)) && decide ((len : Int) ≤ 65536)) = false := by
    rw [Bool.and_eq_false_iff, decide_eq_false_iff_not, decide_eq_false_iff_not]
    omega
  have HB0 : Hid (Below w.heap.size w (w.alloc (.cells #[.slice none 0 0, .slice none 0 0, .slice none 0 0] 33))) := (Below.refl _ _).alloc (Nat.le_refl _) _
  have HR0 := hid (tri_new w 33 (.slice none 0 0) (.slice none 0 0) (.slice none 0 0))
  go_enter Tryz.func8, Tryz.ntmps8
  go_wp2_with fail
  refine (issize_any (len : Int) _).mono ?_
  rintro e w1 ⟨rfl, rfl⟩
  rw [hno]
  clear hno
  generalize w.alloc (.cells #[.slice none 0 0, .slice none 0 0, .slice none 0 0] 33) = W0 at *
  have k0 := HR0.out.cell (i := 0) (by omega)
  have k1 := HR0.out.cell (i := 1) (by omega)
  have k2 := HR0.out.cell (i := 2) (by omega)
  have y0 := HR0.out.frozen 0
  have y1 := HR0.out.frozen 1
  have y2 := HR0.out.frozen 2
  go_wp2_with fail
  have HF := hid (tri_arr (tri_set2 (tri_set1 (tri_set0 HR0.out (.slice none 0 0)) (.slice none 0 0)) (.slice none 0 0)))
  refine bodyPost_ret (results_ct rfl _ _ w.heap.size 33 _ (0, 0) _ rfl HF.out Tryz.underlying33 rfl (by kernel_rfl)) rfl ?_
  exact ⟨rfl, ((HB0.out.setCell (p := ⟨w.heap.size, 0, none⟩) (Nat.le_refl _) _).setCell (p := ⟨w.heap.size, 1, none⟩) (Nat.le_refl _) _).setCell (p := ⟨w.heap.size, 2, none⟩) (Nat.le_refl _) _⟩

set_option maxRecDepth 100000 in
set_option maxHeartbeats 1000000 in
theorem open_range (s cap cp len : Nat) (a ap : Option Addr) (ps : List Int) (w : World) (h1 : 1 ≤ len) (h2 : len ≤ 65536) (hpl : ps.length ≤ 281474976710656) (hrow : RowB w.heap.size w ap ps) (hno : ps.any (lackb 0 len) = true) :
    Calls Tryz.prog 8 #[.pointer (some ⟨s, 0, none⟩), .slice a len cap, .slice ap ps.length cp] w fun e w' => e = .returned (.tuple #[.agg #[.slice none 0 0, .slice none 0 0, .slice none 0 0], .iface 53 (.int .i64 3)]) ∧ Below w.heap.size w w' := by
  have hyes : (decide (1 ≤ (len : Int)) && decide ((len : Int) ≤ 65536)) = true := by
    rw [Bool.and_eq_true, decide_eq_true_eq, decide_eq_true_eq]
    omega
  have HB0 : Hid (Below w.heap.size w (w.alloc (.cells #[.slice none 0 0, .slice none 0 0, .slice none 0 0] 33))) := (Below.refl _ _).alloc (Nat.le_refl _) _
  have HR0 := hid (tri_new w 33 (.slice none 0 0) (.slice none 0 0) (.slice none 0 0))
  have HRW := hid hrow
  clear hrow
  go_enter Tryz.func8, Tryz.ntmps8
  go_wp2_with fail
  refine (issize_any (len : Int) _).mono ?_
  rintro e w1 ⟨rfl, rfl⟩
  rw [hyes]
  clear hyes
  generalize w.alloc (.cells #[.slice none 0 0, .slice none 0 0, .slice none 0 0] 33) = W0 at *
  have HB1 : Hid (Below W0.heap.size W0 (W0.alloc (.cells #[.int .i64 0, .int .i64 (len : Int)] 55))) := (Below.refl _ _).alloc (Nat.le_refl _) _
  have HG1 := hid (duo_new W0 55 (.int .i64 0) (.int .i64 (len : Int)))
  have HR1 := hid (HR0.out.of_block (HB1.out.block _ HR0.out.lt))
  go_wp2_with fail
  generalize W0.alloc (.cells #[.int .i64 0, .int .i64 (len : Int)] 55) = W1 at *
  have HBW := hid (HB0.out.trans (HB1.out.mono HB0.out.size))
  have g0 := HG1.out.cell (i := 0) (by omega)
  have g1 := HG1.out.cell (i := 1) (by omega)
  have HCT := hid (contains_any 0 len cp ap ps W1 hpl ((HRW.out.below HBW.out).mono HBW.out.size))
  rw [hno, Int.natCast_zero] at HCT
  go_wp2_with fail
  refine HCT.out.mono ?_
  rintro e w2 ⟨rfl, hb2⟩
  have HR2 := hid (HR1.out.of_block (hb2.block _ HR1.out.lt))
  have HB2 := hid (HBW.out.trans (hb2.mono HBW.out.size))
  clear hb2 g0 g1 HR1 HBW HB1 HG1
  have k0 := HR2.out.cell (i := 0) (by omega)
  have k1 := HR2.out.cell (i := 1) (by omega)
  have k2 := HR2.out.cell (i := 2) (by omega)
  have y0 := HR2.out.frozen 0
  have y1 := HR2.out.frozen 1
  have y2 := HR2.out.frozen 2
  go_wp2_with fail
  have HF := hid (tri_arr (tri_set2 (tri_set1 (tri_set0 HR2.out (.slice none 0 0)) (.slice none 0 0)) (.slice none 0 0)))
  refine bodyPost_ret (results_ct rfl _ _ w.heap.size 33 _ (0, 0) _ rfl HF.out Tryz.underlying33 rfl (by kernel_rfl)) rfl ?_
  exact ⟨rfl, ((HB2.out.setCell (p := ⟨w.heap.size, 0, none⟩) (Nat.le_refl _) _).setCell (p := ⟨w.heap.size, 1, none⟩) (Nat.le_refl _) _).setCell (p := ⟨w.heap.size, 2, none⟩) (Nat.le_refl _) _⟩

end Go.Proofs.YtionbilheeheaaeGreatDoor
