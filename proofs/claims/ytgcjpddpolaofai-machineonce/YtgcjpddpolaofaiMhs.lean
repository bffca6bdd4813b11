/- Package machine: ascending, what is collected. Package machine: ascending. MachineWalks: the walk. Package machine: Run. Runs, plainly: a greater limit; one ascending list. attestlaw6: rans, plain. attestlaw6: plain, lives. slices.SortFunc at cells: laid for this program. Package machine: slices.SortFunc at cells. Package machine: slices.SortFunc at cells, whole. Runs, plainly: what is told is told for good. attestlaw6: told; what Walk gives, in two. MachineOnce: the walk. -/
import Derived.Test.YtgcjpddpolaofaiMhk
import Derived.Maps.RangeWalk
import Derived.Test.YtgcjpddpolaofaiFld
import Derived.Shelf.SlLaysF0
import Derived.Test.YtgcjpddpolaofaiProg
import Derived.Shelf.SlSortCmp.WholeK
import Derived.Lib.Small
import Derived.Shelf.SlSortCmp.NoneTotal
namespace Go.Proofs.Ytgcjpddpolaofai
open Go.RowKit Go.Maps

/-- append(l, c): a cell more -/
theorem wpList_cel {ops : Array Oper} {rest : List Oper} {o : Oper} {act : Act} {Q : Exit → Act → World → Prop} (W : World) (hgd : o.guard = none) (s x : Operand)
    (ho : o.op = .call { callee := .builtin .append, args := #[s, x], argTypes := #[28, 28] }) (v : Value) (base : Nat) (l : List (Int × Int)) (z0 z1 : Int)
    (hown : CelR base W v l) (hs : act.eval s = v) (hx : act.eval x = .slice (some ⟨W.heap.size, 0, none⟩) 1 1) (hlen : l.length ≤ 4000000) (hbase : base ≤ W.heap.size)
    (h : ∀ v' w2, CelR base w2 v' (l ++ [(z0, z1)]) → Below base W w2 → W.grownBy w2 v.ownBlock → wpList Try.prog ops Q rest (act.put o.dst v') w2) :
    wpList Try.prog ops Q (o :: rest) act (W.alloc (.cells #[.int .i64 z0, .int .i64 z1] 52)) := by
  obtain ⟨cs, hcs⟩ : ∃ cs, cs = #[Value.int .i64 z0, .int .i64 z1] := ⟨_, rfl⟩
  rw [← hcs]
  have hbw : Below W.heap.size W (W.alloc (.cells cs 52)) := (Below.refl _ _).alloc (Nat.le_refl _) _
  obtain ⟨i0, hi, hz0, hz1, hz2⟩ := info_parts (show (Try.prog.info? 52).map (fun i => (i.zero, i.size, i.bytes)) = some (some (.agg #[.int .i64 0, .int .i64 0]), 2, 16) by kernel_rfl)
  have h1 : (W.alloc (.cells cs 52)).ownsRow base 52 2 v l.length (celv l) := World.ownsRow.alloc hown _
  refine wpList_append_own _ hgd s x 28 ho base 52 i0 _ 2 16 Try.underlying28 hi hz0 hz1 hz2 rfl (by decide) _ _ _ hs h1 ⟨W.heap.size, 0, none⟩ 1 1 cs.toList hx (by rw [hcs]; rfl) ?_ ?_ (by unfold maxLen; omega) (by omega) (by simp; omega) ?_
  · intro j t hj
    have hc : (W.alloc (.cells cs 52)).heap[W.heap.size]? = some (.cells cs 52 (0, 0)) := heap_alloc_new W _
    have hadd : (⟨W.heap.size, 0, none⟩ : Addr).add j = ⟨W.heap.size, j, none⟩ := by unfold Addr.add; split <;> simp_all
    rw [hadd]
    simp only [World.cell?, hc]
    simpa using hj
  · intro t ht
    rw [hcs] at ht
    have ht2 : t = .int .i64 z0 ∨ t = .int .i64 z1 := by simpa using ht
    rcases ht2 with rfl | rfl <;> rfl
  · intro v' w2 hown2 hgrow _
    have hB0 : Below base (W.alloc (.cells cs 52)) w2 := (Below.refl base _).grown hgrow (by simp; omega) (fun k hk => (h1.lt k hk).1)
    refine h v' w2 ?_ ((hbw.mono hbase).trans hB0) ⟨hgrow.os, hgrow.tape, hgrow.output, by have := hgrow.size; simp at this; omega, fun k hk hne => (hgrow.block k (by simp; omega) hne).trans (hbw.block k hk)⟩
    unfold CelR
    rw [celv_app, List.length_append]
    rw [hcs] at hown2
    simpa [celv] using hown2

theorem same_int (a b : Int) : (Lit.int .i64 a).sameKey (Lit.int .i64 b) = decide (a = b) := by
  by_cases h : a = b
  · subst h
    simp [Lit.sameKey]
  · rw [sameKey_ne (by intro e; injection e with _ e; exact h e), decide_eq_false h]
/-- what is collected -/
structure AsI (B r n : Nat) (D : DataW Unit) (left : Lit → Bool) (cnt : Nat) (l : List (Int × Int)) (v : Value) (w W : World) : Prop where
  rg : W.ranges Try.prog 3 (plainElem Try.prog 3) B r n D left cnt
  own : CelR w.heap.size W v l
  mem : ∀ x y, (x, y) ∈ l ↔ (x ≠ 0 ∧ I64 x ∧ Maps.has D (.int .i64 x) = true ∧ left (.int .i64 x) = false ∧ D.atKey (.int .i64 x) (.lit (.int .i64 0)) = .lit (.int .i64 y))
  nd : (l.map Prod.fst).Nodup
  bel : Below w.heap.size w W
  len : l.length + cnt ≤ n
theorem mem_step {D : DataW Unit} {left : Lit → Bool} {l : List (Int × Int)} {x c : Int} (hx : x ≠ 0) (h64 : I64 x) (hl : left (.int .i64 x) = true) (hat : ∀ zd, D.atKey (.int .i64 x) zd = .lit (.int .i64 c))
    (h : ∀ x y, (x, y) ∈ l ↔ (x ≠ 0 ∧ I64 x ∧ Maps.has D (.int .i64 x) = true ∧ left (.int .i64 x) = false ∧ D.atKey (.int .i64 x) (.lit (.int .i64 0)) = .lit (.int .i64 y))) :
    ∀ x' y, (x', y) ∈ l ++ [(x, c)] ↔ (x' ≠ 0 ∧ I64 x' ∧ Maps.has D (.int .i64 x') = true ∧ (fun z : Lit => left z && !z.sameKey (.int .i64 x)) (.int .i64 x') = false ∧ D.atKey (.int .i64 x') (.lit (.int .i64 0)) = .lit (.int .i64 y)) := fun x' y => by
  rw [List.mem_append, h x' y]
  simp only [same_int]
  by_cases e : x' = x
  · subst e
    simp only [hl, List.mem_singleton, Prod.mk.injEq, true_and, decide_true, Bool.not_true, Bool.and_false]
    constructor
    · rintro (⟨_, _, _, h4, _⟩ | rfl)
      · cases h4
      · exact ⟨hx, h64, has_true_of_atKey hat, hat _⟩
    · rintro ⟨_, _, _, h5⟩
      rw [hat] at h5
      injection h5 with h5
      injection h5 with _ h5
      exact .inr h5.symm
  · simp [e]
theorem mem_skip {D : DataW Unit} {left : Lit → Bool} {l : List (Int × Int)}
    (h : ∀ x y, (x, y) ∈ l ↔ (x ≠ 0 ∧ I64 x ∧ Maps.has D (.int .i64 x) = true ∧ left (.int .i64 x) = false ∧ D.atKey (.int .i64 x) (.lit (.int .i64 0)) = .lit (.int .i64 y))) :
    ∀ x' y, (x', y) ∈ l ↔ (x' ≠ 0 ∧ I64 x' ∧ Maps.has D (.int .i64 x') = true ∧ (fun z : Lit => left z && !z.sameKey (.int .i64 0)) (.int .i64 x') = false ∧ D.atKey (.int .i64 x') (.lit (.int .i64 0)) = .lit (.int .i64 y)) := fun x' y => by
  rw [h x' y]
  simp only [same_int]
  by_cases e : x' = 0
  · simp [e]
  · simp [e]

end Go.Proofs.Ytgcjpddpolaofai

namespace Go.Proofs.Ytgcjpddpolaofai
open Go.RowKit Go.Maps

theorem wf_boundsM {x : Int} (h : (Lit.int .i64 x).wf = true) : I64 x := bounds_i64 h
/-- what slices.SortFunc must do -/
def SrtAs : Prop := ∀ (base : Nat) (v : Value) (l : List (Int × Int)) (W : World), CelR base W v l → l.length ≤ 4000000 → base ≤ W.heap.size →
  Calls Try.prog 17 #[v, .func (.func 18) #[] #[]] W fun e w' => e = .returned (.tuple #[]) ∧ ∃ l' : List (Int × Int), l'.Perm l ∧ l'.Pairwise (fun a b => a.1 ≤ b.1) ∧ CelR base w' v l' ∧ Below base W w'
/-- what is told, ascending, but for cell 0 -/
def AscC (cs l : List (Int × Int)) : Prop := l.Pairwise (fun a b => a.1 < b.1) ∧ ∀ x y, (x, y) ∈ l ↔ (x ≠ 0 ∧ I64 x ∧ 0 ≤ finz cs x ∧ cvl cs x = y)

theorem own_ne_iter {base : Nat} {W : World} {v : Value} {l : List (Int × Int)} {B r n : Nat} {D : DataW Unit} {left : Lit → Bool} {cnt : Nat} (h : CelR base W v l) (hr : W.ranges Try.prog 3 (plainElem Try.prog 3) B r n D left cnt) : some B ≠ v.ownBlock ∧ some r ≠ v.ownBlock := by
  obtain ⟨es, cl, si, se, c0, h1, _, _, _, h2, _⟩ := hr
  rcases h.2 with ⟨rfl, _⟩ | ⟨g, cap, cur, rfl, _, hg, _⟩
  · exact ⟨(by intro e; cases e), (by intro e; cases e)⟩
  · constructor
    · intro e
      have e' : some B = some g := e
      injection e' with e'
      subst e'
      rw [hg] at h1
      injection h1 with h1
      cases h1
    · intro e
      have e' : some r = some g := e
      injection e' with e'
      subst e'
      rw [hg] at h2
      injection h2 with h2
      cases h2

set_option maxRecDepth 100000 in
set_option maxHeartbeats 2000000 in
theorem pasc_any (SO : SrtAs) (B n : Nat) (cs : List (Int × Int)) (w : World) (hM : MapAt w B n cs) (hn : n ≤ 4000000) :
    Calls Try.prog 11 #[.map (some B)] w fun e w' => ∃ v l, e = .returned v ∧ CelR w.heap.size w' v l ∧ AscC cs l ∧ Below w.heap.size w w' := by
  obtain ⟨D, hD, hC⟩ := hM
  have HSO := hid SO
  have HCM := hid hC
  have HDD := hid hD
  have HSZ := hid hD.size_le
  clear SO hC
  go_enter Try.func11, Try.ntmps11
  go_wp2_with (first | (at_range; refine wpList_range_own _ rfl _ 47 rfl 3 3 keyI Try.underlying47 _ B n D rfl hD ?_; intro w0 hrg0 hg0 hs0))
  go_frame
  have HI0 : Hid (AsI B w.heap.size n D (Maps.has D) (Maps.size D) [] (.slice none 0 0) w w0) := ⟨hrg0, World.ownsRow_nil _ _ _ _, fun x y => ⟨fun h => (by cases h), fun h => by rw [h.2.2.1] at h; exact absurd h.2.2.2.1 (by simp)⟩, List.nodup_nil, ⟨hg0.os, hg0.tape, hg0.output, hg0.size, fun k hk => hg0.block k hk (by simp)⟩, by simpa using HSZ.out⟩
  clear hrg0 hg0 hs0 hD
  go_loopw [3] (fun lv wr => ∃ (left : Lit → Bool) (cnt : Nat) (l : List (Int × Int)), Hid (AsI B w.heap.size n D left cnt l lv w wr)) (fun _ wr => wr.rangeLeft B w.heap.size)
  case atStart => exact ⟨_, _, _, HI0.out⟩
  case round =>
    obtain ⟨left, cnt, l, HI⟩ := hrel
    have hrg := HI.out.rg
    go_wp2_with (at_next; refine wpList_next_ranges_ii _ rfl _ rfl 3 3 .i64 .i64 keyI Try.underlying3 Try.underlying3 B w.heap.size n D left cnt rfl hrg ?_ ?_)
    · intro _ hl0
      have HST := hid (HSO.out w.heap.size u3 l wr HI.out.own (by have := HI.out.len; omega) HI.out.bel.size)
      have HL0 := hid hl0
      clear hl0 hrg HSO HI0
      go_wp2_with fail
      refine HST.out.mono ?_
      rintro e w2 ⟨rfl, l', hpm, hsr, hcl, hb2⟩
      have HEND : Hid (∃ v l, Ending.returned u3 = .returned v ∧ CelR w.heap.size w2 v l ∧ AscC cs l ∧ Below w.heap.size w w2) := by
        have hmem : ∀ x y, (x, y) ∈ l' ↔ (x ≠ 0 ∧ I64 x ∧ 0 ≤ finz cs x ∧ cvl cs x = y) := fun x y => by
          rw [hpm.mem_iff, HI.out.mem x y]
          constructor
          · rintro ⟨e1, e2, e3, _, e5⟩
            have hc := HCM.out x e2
            rw [e3] at hc
            rw [hc.2] at e5
            injection e5 with e5
            injection e5 with _ e5
            exact ⟨e1, e2, of_decide_eq_true hc.1.symm, e5⟩
          · rintro ⟨e1, e2, e3, e4⟩
            have hc := HCM.out x e2
            exact ⟨e1, e2, by rw [hc.1]; exact decide_eq_true e3, HL0.out _, by rw [hc.2, e4]⟩
        refine ⟨u3, l', rfl, hcl, ⟨?_, hmem⟩, HI.out.bel.trans hb2⟩
        have hnd : (l'.map Prod.fst).Nodup := (hpm.map Prod.fst).nodup_iff.2 HI.out.nd
        have hnd2 : l'.Pairwise (fun a b => a.1 ≠ b.1) := by
          unfold List.Nodup at hnd
          exact List.pairwise_map.1 hnd
        exact (hsr.and hnd2).imp (fun h => by have h1 := h.1; have h2 := h.2; omega)
      clear hpm hsr hcl hb2 HST HI HCM HL0
      go_wp2_with fail
      go_ret
      exact HEND.out
    · intro x c w1 cnt1 hwx hwc hlx hat hrg1 hlt hg1 hs1 hen
      have h64 : I64 x := wf_boundsM hwx
      have HO1 : Hid (CelR w.heap.size w1 u3 l) := World.ownsRow.kept HI.out.own hg1 (by
        have h2 := (own_ne_iter HI.out.own hrg).2
        cases hv : u3.ownBlock with
        | none => exact .inl rfl
        | some k => exact .inr (by rw [← hv]; exact Ne.symm h2))
      have HB1 : Hid (Below w.heap.size w w1) := HI.out.bel.trans ⟨hg1.os, hg1.tape, hg1.output, hg1.size, fun k hk => hg1.block k (Nat.lt_of_lt_of_le hk HI.out.bel.size) (by intro e; injection e with e; omega)⟩
      have HR1 := hid hrg1
      have HRO := hid hrg
      have HLT := hid hlt
      by_cases h0 : x = 0
      · subst h0
        have HN : Hid (AsI B w.heap.size n D (fun z => left z && !z.sameKey (.int .i64 0)) cnt1 l u3 w w1) := ⟨hrg1, HO1.out, mem_skip HI.out.mem, HI.out.nd, HB1.out, by have := HI.out.len; omega⟩
        clear hrg hrg1 hg1 hs1 hlt hat hlx HSO
        go_wp2_with fail
        exact ⟨⟨_, _, _, HN.out⟩, by rw [HR1.out.left_eq, HRO.out.left_eq]; exact HLT.out⟩
      · have hx0 : (x != 0) = true := by simp [h0]
        have HMS := hid (mem_step h0 h64 hlx hat HI.out.mem)
        have HND : Hid (((l ++ [(x, c)]).map Prod.fst).Nodup) := by
          unfold Hid
          rw [List.map_append, List.nodup_append]
          refine ⟨HI.out.nd, by simp, fun a ha b hb => ?_⟩
          rintro rfl
          obtain ⟨⟨a', y⟩, h1, rfl⟩ := List.mem_map.1 ha
          have hb' : a' = x := by simpa using hb
          subst hb'
          have := ((HI.out.mem a' y).1 h1).2.2.2.1
          rw [hlx] at this
          cases this
        have HLN : Hid (l.length ≤ 4000000 ∧ l.length + 1 + cnt1 ≤ n) := ⟨by have := HI.out.len; omega, by have := HI.out.len; omega⟩
        clear hrg hrg1 hg1 hs1 hlt hat hlx HSO
        go_wp2_with (at_builtin; refine wpList_cel w1 rfl _ _ rfl _ w.heap.size l x c HO1.out rfl rfl HLN.out.1 HB1.out.size ?_)
        intro v' w2 hc2 hb2 hg2
        have hne := own_ne_iter HO1.out HR1.out
        have hr2 := HR1.out.kept hg2 hne.1 hne.2
        have HN : Hid (AsI B w.heap.size n D (fun z => left z && !z.sameKey (.int .i64 x)) cnt1 (l ++ [(x, c)]) v' w w2) := ⟨hr2, hc2, HMS.out, HND.out, HB1.out.trans hb2, by rw [List.length_append]; exact HLN.out.2⟩
        have HR2 := hid hr2
        clear hc2 hb2 hg2 hne hr2
        go_wp2_with fail
        exact ⟨⟨_, _, _, HN.out⟩, by rw [HR2.out.left_eq, HRO.out.left_eq]; exact HLT.out⟩

end Go.Proofs.Ytgcjpddpolaofai

namespace Go.Proofs.Ytgcjpddpolaofai
open Go.RowKit Go.Maps

theorem stvs_int : ∀ (l : List (List Int)) (m : Nat), m < (stvs l).length → ∃ x, (stvs l)[m]? = some (.int .i64 x) := fun l m hm => by
  have h : ∀ v, v ∈ stvs l → ∃ x, v = .int .i64 x := fun v hv => by
    unfold stvs at hv
    obtain ⟨y, _, h2⟩ := List.mem_flatMap.1 hv
    obtain ⟨x, _, rfl⟩ := List.mem_map.1 h2
    exact ⟨x, rfl⟩
  obtain ⟨x, hx⟩ := h _ (List.getElem_mem hm)
  exact ⟨x, by rw [List.getElem?_eq_getElem hm, hx]⟩
/-- a row of steps, cell by cell -/
theorem StR.cells {base : Nat} {w : World} {v : Value} {l : List (List Int)} (h : StR base w v l) (h0 : 0 < l.length) : ∃ g cap, v = .slice (some ⟨g, 0, none⟩) l.length cap ∧ l.length ≤ maxLen ∧ ∀ m x, (stvs l)[m]? = some (.int .i64 x) → w.cell? ⟨g, m, none⟩ = some (.int .i64 x) := by
  have h' := h
  rcases h.2 with ⟨_, hn⟩ | ⟨g, cap, cur, rfl, hb, hg, hn, hm, hs, ht⟩
  · omega
  · refine ⟨g, cap, rfl, by omega, fun m x hx => ?_⟩
    have := World.ownsRow.cells h' (g := g) rfl m _ hx
    have hadd : (⟨g, 0, none⟩ : Addr).add m = ⟨g, 0 + m, none⟩ := by unfold Addr.add; split <;> simp_all
    rw [hadd, Nat.zero_add] at this
    exact this
theorem StR.form {base : Nat} {w : World} {v : Value} {l : List (List Int)} (h : StR base w v l) : ∃ a c, v = .slice a l.length c := by
  rcases h.2 with ⟨rfl, h0⟩ | ⟨g, cap, cur, rfl, _⟩
  · exact ⟨none, 0, by rw [h0]⟩
  · exact ⟨_, _, rfl⟩

theorem eqI_runM (n : Nat) (a : Int) (w : World) : (Op.equalIn (n + 1) 3 (.int .i64 a) (.int .i64 a)).run Try.prog w = .ok true w := by
  simp [Op.equalIn, run_underlying Try.underlying3, Result.andThen]
theorem part_runM (cs : Array Value) (i : Nat) (v : Value) (h : cs[i]? = some v) (w : World) : (part 3 cs i).run Try.prog w = .ok v w := by
  simp [part, Try.isAgg3, h, Result.andThen]
theorem eq3_runM (n : Nat) (a0 a1 a2 : Int) (w : World) : (Op.equalIn (n + 1 + 1) 38 (.agg #[.int .i64 a0, .int .i64 a1, .int .i64 a2]) (.agg #[.int .i64 a0, .int .i64 a1, .int .i64 a2])).run Try.prog w = .ok true w := by
  have e : ∀ (x : Int), (Op.equalIn (n + 1) 3 (.int .i64 x) (.int .i64 x)).run Try.prog w = .ok true w := fun x => eqI_runM n x w
  unfold Op.equalIn
  simp only [Sem.run_bind, run_underlying Try.underlying38, Result.andThen_ok, Try.sizeOf3]
  have p0 : ∀ (x0 x1 x2 : Value), (part 3 #[x0, x1, x2] (0 * 1)).run Try.prog w = .ok x0 w := fun x0 x1 x2 => part_runM _ _ _ rfl w
  have p1 : ∀ (x0 x1 x2 : Value), (part 3 #[x0, x1, x2] (1 * 1)).run Try.prog w = .ok x1 w := fun x0 x1 x2 => part_runM _ _ _ rfl w
  have p2 : ∀ (x0 x1 x2 : Value), (part 3 #[x0, x1, x2] (2 * 1)).run Try.prog w = .ok x2 w := fun x0 x1 x2 => part_runM _ _ _ rfl w
  rw [Std.Legacy.Range.forIn_eq_forIn_range']
  show ((Sem.run Try.prog (forIn [0, 1, 2] _ _) w).andThen _) = _
  simp only [List.forIn_cons, List.forIn_nil, Sem.run_bind, p0, e, Result.andThen_ok]
  simp [p1, p2, e, Result.andThen]
theorem neq_step (y0 y1 y2 y3 y4 y5 y6 y7 y8 y9 : Int) (w : World) : (binOp BinOp.neq 40 (.agg #[.int .i64 y0, .int .i64 y1, .int .i64 y2, .int .i64 y3, .int .i64 y4, .int .i64 y5, .int .i64 y6, .int .i64 y7, .int .i64 y8, .int .i64 y9]) (.agg #[.int .i64 y0, .int .i64 y1, .int .i64 y2, .int .i64 y3, .int .i64 y4, .int .i64 y5, .int .i64 y6, .int .i64 y7, .int .i64 y8, .int .i64 y9])).run Try.prog w = .ok (.bool false) w := by
  have e3 : ∀ (x y z : Int), (Op.equalIn 9999 38 (.agg #[.int .i64 x, .int .i64 y, .int .i64 z]) (.agg #[.int .i64 x, .int .i64 y, .int .i64 z])).run Try.prog w = .ok true w := fun x y z => eq3_runM 9997 x y z w
  simp [go_sem, e3]

end Go.Proofs.Ytgcjpddpolaofai

namespace Go.Proofs.Ytgcjpddpolaofai
open Go.RowKit Go.Maps

theorem results_ctM {P : Program} {fn : Func} {p u : Tmp} {ty : TypeId} (h : fn.results = #[.cell p ty, .tmp u]) (tmps : Array Value) (w : World) (g : Nat) (tt : TypeId) (cs : Array Value) (fr : Nat × Nat) (d : TypeDesc)
    (hp : tmps.getD p undef = .pointer (some ⟨g, 0, none⟩)) (hg : w.heap[g]? = some (.cells cs tt fr))
    (hu : P.underlying ty = some d) (hd : (match d with | .struct _ | .array _ _ => true | _ => false) = true) (hi : (P.info? ty).map (·.size) = some cs.size) :
    (results fn tmps).run P w = .ok (.tuple #[.agg cs, tmps.getD u undef]) w := by
  have hp' : tmps[p]?.getD undef = .pointer (some ⟨g, 0, none⟩) := by simpa using hp
  simp [results, h, hp', asAddr, run_loadVar_row w g tt ty cs fr d hg hu hd hi]
theorem mgo_len (p : Nat) (L : List InsZ) (limit : Nat) : ∀ (f : Nat) (s : RM) (done l : List (List Int)) (cs : List (Int × Int)), mgo p L limit f s done = .good l cs → 0 < l.length ∧ l.length ≤ done.length + f
  | 0, _, _, _, _, h => by simp [mgo] at h
  | f + 1, s, done, l, cs, h => by
    rw [mgo] at h
    split at h
    · cases h
    · split at h
      · cases h
      · split at h
        · cases h
        · split at h
          · injection h with h1 _
            rw [← h1]
            simp
          · have := mgo_len p L limit f _ _ l cs h
            simp at this
            exact ⟨this.1, by omega⟩
theorem mgo_bad (p : Nat) (L : List InsZ) (limit : Nat) : ∀ (f : Nat) (s : RM) (done : List (List Int)) (z : Int), mgo p L limit f s done = .bad z → z ≠ 0
  | 0, _, _, _, h => by simp [mgo] at h; omega
  | f + 1, s, done, z, h => by
    rw [mgo] at h
    split at h
    · injection h with h; omega
    · split at h
      · injection h with h; omega
      · split at h
        · rename_i h1
          injection h with h
          rw [← h]
          exact h1
        · split at h
          · cases h
          · exact mgo_bad p L limit f _ _ z h
/-- what a run comes to: the first cell of its last step -/
def outv (l : List (List Int)) : Int := match (stvs l)[(l.length - 1) * 10 + 7]? with
  | some (.int _ x) => x
  | _ => 0
/-- what Run gives -/
def RuR (p : Nat) (size : Int) (L : List InsZ) (limit : Int) (w : World) (e : Ending) (w' : World) : Prop := Below w.heap.size w w' ∧
  if fz6 (p : Int) size L.length limit ≠ 0 then e = .returned (.tuple #[.agg #[.int .i64 0, .int .i64 0, .slice none 0 0], errV (fz6 (p : Int) size L.length limit)])
  else match mwalk p size L limit.toNat with
    | .bad z => e = .returned (.tuple #[.agg #[.int .i64 0, .int .i64 0, .slice none 0 0], errV z])
    | .good l cs => ∃ v l', e = .returned (.tuple #[.agg #[.int .i64 (outv l), .int .i64 ((l.length - 1 : Nat) : Int), v], .nilIface]) ∧ CelR w.heap.size w' v l' ∧ AscC cs l'

set_option maxRecDepth 100000 in
set_option maxHeartbeats 2000000 in
theorem prun_any (SO : SrtAs) (p b : Nat) (size limit : Int) (aL : Option Addr) (cL : Nat) (L : List InsZ) (w : World) (h3 : 3 ≤ p) (h4 : p ≤ 2147483647) (hpr : Num.Prime p) (hp : w.cell? ⟨b, 0, none⟩ = some (.int .i64 p)) (hn : L.length ≤ 281474976710656) (hL : LstI w.heap.size w aL cL L) (hIB : InsB L) :
    Calls Try.prog 6 #[.pointer (some ⟨b, 0, none⟩), .agg #[.int .i64 size, .slice aL L.length cL], .int .i64 limit] w (RuR p size L limit w) := by
  obtain ⟨V, hV⟩ : ∃ V, V = w.alloc (.cells #[.int .i64 size, .slice aL L.length cL] 24) := ⟨_, rfl⟩
  obtain ⟨W0, hW0⟩ : ∃ W0, W0 = V.alloc (.cells #[.int .i64 0, .int .i64 0, .slice none 0 0] 30) := ⟨_, rfl⟩
  have b1 : Below w.heap.size w V := by rw [hV]; exact (Below.refl _ _).alloc (Nat.le_refl _) _
  have hs : V.heap.size = w.heap.size + 1 := by rw [hV]; simp
  have b2 : Below V.heap.size V W0 := by rw [hW0]; exact (Below.refl _ _).alloc (Nat.le_refl _) _
  have hb0 := b1.trans (b2.mono b1.size)
  have hr0 : W0.heap[w.heap.size + 1]? = some (.cells #[.int .i64 0, .int .i64 0, .slice none 0 0] 30 (0, 0)) := by rw [hW0, ← hs]; exact heap_alloc_new V _
  have HWD := hid (pwalked_any p b size limit aL cL L W0 h3 h4 hpr ((hb0.cell (p := ⟨b, 0, none⟩) (World.block_lt_of_cell? _ _ hp)).trans hp) hn ((hL.below hb0).mono hb0.size) hIB)
  have HB0 := hid hb0
  have HR0 := hid hr0
  have HSO := hid SO
  obtain ⟨nL, hnL⟩ : ∃ nL, nL = L.length := ⟨_, rfl⟩
  rw [← hnL] at HWD hV ⊢
  rw [hV] at hW0
  clear b1 hs b2 hb0 hr0 hV hp hn hL hIB hpr SO h3 h4 hnL
  go_enter Try.func6, Try.ntmps6
  go_wp2_with fail
  rw [← hW0]
  clear hW0
  refine HWD.out.mono ?_
  rintro e w1 ⟨hb1, hr1⟩
  have HR1 := hid ((hb1.block _ (Array.getElem?_eq_some_iff.1 HR0.out).1).trans HR0.out)
  have HB1 := hid (HB0.out.trans (hb1.mono HB0.out.size))
  have d0 : w1.cell? ⟨w.heap.size + 1, 0, none⟩ = some (.int .i64 0) := by simp [World.cell?, HR1.out]
  have d1 : w1.cell? ⟨w.heap.size + 1, 1, none⟩ = some (.int .i64 0) := by simp [World.cell?, HR1.out]
  have d2 : w1.cell? ⟨w.heap.size + 1, 2, none⟩ = some (.slice none 0 0) := by simp [World.cell?, HR1.out]
  have df := (row3_of HR1.out).frozen
  have HCASE : Hid ((∃ z, z ≠ 0 ∧ e = .returned (.tuple #[.slice none 0 0, .map none, errV z]) ∧ ∀ w', Below w.heap.size w w' → RuR p size L limit w (.returned (.tuple #[.agg #[.int .i64 0, .int .i64 0, .slice none 0 0], errV z])) w') ∨ ∃ l cs v B, 0 < l.length ∧ l.length ≤ 16385 ∧ e = .returned (.tuple #[v, .map (some B), .nilIface]) ∧ StR W0.heap.size w1 v l ∧ MapAt w1 B (1 + 2 * l.length) cs ∧ ∀ w' v l', Below w.heap.size w w' → CelR w.heap.size w' v l' → AscC cs l' → RuR p size L limit w (.returned (.tuple #[.agg #[.int .i64 (outv l), .int .i64 ((l.length - 1 : Nat) : Int), v], .nilIface])) w') := by
    by_cases hz : fz6 (p : Int) size L.length limit ≠ 0
    · rw [if_pos hz] at hr1
      exact .inl ⟨_, hz, hr1, fun w' hb => ⟨hb, by rw [if_pos hz]⟩⟩
    · rw [if_neg hz] at hr1
      have hlm : 0 ≤ limit ∧ limit ≤ 16384 := by
        have hz0 : fz6 (p : Int) size L.length limit = 0 := Decidable.byContradiction hz
        unfold fz6 at hz0
        split at hz0
        · omega
        · split at hz0 <;> omega
      cases hX : mwalk p size L limit.toNat with
      | bad z =>
        rw [hX] at hr1
        exact .inl ⟨z, mgo_bad _ _ _ _ _ _ _ hX, hr1, fun w' hb => ⟨hb, by rw [if_neg hz, hX]⟩⟩
      | good l cs =>
        rw [hX] at hr1
        obtain ⟨v, B, h1, h2, h5⟩ := hr1
        have hln := mgo_len _ _ _ _ _ _ _ _ hX
        refine .inr ⟨l, cs, v, B, hln.1, by have := hln.2; simp at this; omega, h1, h2, h5, fun w' v' l' hb hc ha => ⟨hb, ?_⟩⟩
        rw [if_neg hz, hX]
        exact ⟨v', l', rfl, hc, ha⟩
  clear hr1 HWD HR0 HB0
  rcases HCASE.out with ⟨z, hz, rfl, hE⟩ | ⟨l, cs, v, B, hl0, hl1, rfl, hs1, hm1, hE⟩
  · rw [errV_nz hz] at hE ⊢
    have HP3 := hid (put3_heap HR1.out (.int .i64 0) (.int .i64 0) (.slice none 0 0))
    have HE := hid (hE _ (put3_below HB1.out (Nat.le_succ _) (g := w.heap.size + 1) (.int .i64 0) (.int .i64 0) (.slice none 0 0)))
    clear hE HCASE hz HSO hb1
    go_wp2_with fail
    (try simp only [Exit.inBlock, Exit.then])
    refine bodyPost_ret (results_ctM rfl _ _ (w.heap.size + 1) 30 #[.int .i64 0, .int .i64 0, .slice none 0 0] (0, 0) _ rfl HP3.out Try.underlying30 rfl (by kernel_rfl)) rfl ?_
    exact HE.out
  · obtain ⟨av, cv, rfl⟩ := hs1.form
    obtain ⟨g, cap, e1, _, hcl⟩ := hs1.cells hl0
    injection e1 with e1 _ e3
    subst e1 e3
    obtain ⟨o, ho⟩ := stvs_int l ((l.length - 1) * 10 + 7) (by rw [hs1.1]; omega)
    have hou : outv l = o := by unfold outv; rw [ho]
    rw [hou] at hE
    have ko := hcl _ _ ho
    have HAS := hid (fun W (h : MapAt W B (1 + 2 * l.length) cs) => pasc_any HSO.out B (1 + 2 * l.length) cs W h (by omega))
    obtain ⟨n, hn⟩ : ∃ n, n = l.length := ⟨_, rfl⟩
    rw [← hn] at hl0 hl1 hm1 hE HAS ko ⊢
    obtain ⟨k, hk⟩ : ∃ k, n = k + 1 := ⟨n - 1, by omega⟩
    subst hk
    rw [Nat.add_sub_cancel] at ko hE
    have hsub : IntKind.i64.wrap (((k + 1 : Nat) : Int) - 1) = (k : Int) := by rw [IntKind.wrap_i64]; omega
    have HM1 := hid hm1
    have HEE := hid hE
    have hkl : (k : Int) < ((k + 1 : Nat) : Int) := by omega
    clear hE HCASE hs1 hcl ho hou hn hm1 HSO hb1
    go_wp2_with fail
    refine wp_region_held_drew (S := (fun W => W.cell? ⟨g, k * 10 + 7, none⟩ = some (.int .i64 o))) (by kernel_rfl) ko (fun hHeld => ?_)
    refine wpAnyH_takeW (i := 0) (v := .slice (some ⟨g, 0, none⟩) (k + 1) cv) rfl (by kernel_rfl) (by kernel_rfl) (by kernel_rfl) (fun _ _ _ h => h) (by rfl) (fun W hC => by go_simp) hHeld ?_
    simp only [Act.put, List.setIfInBounds_toArray, List.set_cons_zero, List.set_cons_succ]
    refine wpAnyH_takeW (i := 1) (v := .int .i64 (k : Int)) rfl (by kernel_rfl) (by kernel_rfl) (by kernel_rfl) (fun _ _ _ h => h) (by rfl) (fun W hC => by go_simp) hHeld ?_
    simp only [Act.put, List.setIfInBounds_toArray, List.set_cons_zero, List.set_cons_succ]
    refine wpAnyH_takeW (i := 2) (v := .pointer (some ⟨g, k * 10, none⟩)) rfl (by kernel_rfl) (by kernel_rfl) (by kernel_rfl) (fun _ _ _ h => h) (by rfl) (fun W hC => by (go_simp; intro hh; omega)) hHeld ?_
    simp only [Act.put, List.setIfInBounds_toArray, List.set_cons_zero, List.set_cons_succ]
    refine wpAnyH_takeW (i := 3) (v := .pointer (some ⟨g, k * 10 + 7, none⟩)) rfl (by kernel_rfl) (by kernel_rfl) (by kernel_rfl) (fun _ _ _ h => h) (by rfl) (fun W hC => by go_simp) hHeld ?_
    simp only [Act.put, List.setIfInBounds_toArray, List.set_cons_zero, List.set_cons_succ]
    refine wpAnyH_takeW (i := 4) (v := .pointer (some ⟨g, k * 10 + 7, none⟩)) rfl (by kernel_rfl) (by kernel_rfl) (by kernel_rfl) (fun _ _ _ h => h) (by rfl) (fun W hC => by go_simp) hHeld ?_
    simp only [Act.put, List.setIfInBounds_toArray, List.set_cons_zero, List.set_cons_succ]
    refine wpAnyH_takeW (i := 5) (v := .int .i64 o) rfl (by kernel_rfl) (by kernel_rfl) (by kernel_rfl) (fun _ _ _ h => h) (by rfl) (fun W hC => by go_simp) hHeld ?_
    simp only [Act.put, List.setIfInBounds_toArray, List.set_cons_zero, List.set_cons_succ]
    refine wpAnyH_takeW (i := 6) (v := .int .i64 (k : Int)) rfl (by kernel_rfl) (by kernel_rfl) (by kernel_rfl) (fun _ _ _ h => h) (by rfl) (fun W hC => by go_simp) hHeld ?_
    simp only [Act.put, List.setIfInBounds_toArray, List.set_cons_zero, List.set_cons_succ]
    refine wpAnyH_takeW (i := 7) (v := .map (some B)) rfl (by kernel_rfl) (by kernel_rfl) (by kernel_rfl) (fun _ _ _ h => h) (by rfl) (fun W hC => by go_simp) hHeld ?_
    simp only [Act.put, List.setIfInBounds_toArray, List.set_cons_zero, List.set_cons_succ]
    refine wpAnyH_ready (rs := [8]) (by kernel_rfl) (by simp) ?_
    refine AllReadyH.consW rfl (fun K hK => ?_) AllReadyH.nil
    go_simp
    refine (HAS.out w1.drew HM1.out).mono ?_
    rintro e w2 ⟨v, l', rfl, hcl, hasc, hb2⟩
    have hb12 : Below w1.heap.size w1 w2 := ⟨hb2.os, hb2.tape, hb2.output, hb2.size, hb2.block⟩
    obtain ⟨a2, c2, rfl⟩ := hcl.form
    have ko2 := (hb12.cell (p := ⟨g, k * 10 + 7, none⟩) (World.block_lt_of_cell? _ _ ko)).trans ko
    have HR2 := hid ((hb12.block _ (Array.getElem?_eq_some_iff.1 HR1.out).1).trans HR1.out)
    have HB2 := hid (HB1.out.trans (hb12.mono HB1.out.size))
    have HCL := hid hcl
    have HAC := hid hasc
    have hlt1 := hb12.size
    have HGE : Hid (w.heap.size + 1 < w1.heap.size) := (Array.getElem?_eq_some_iff.1 HR1.out).1
    have HGG : Hid (g ≠ w.heap.size + 1) := by
      rintro rfl
      have h5 := World.block_lt_of_cell? _ _ ko
      have h6 := ko
      have h7 := HR1.out
      have : (k * 10 + 7) < 3 := by
        simp only [World.cell?, h7] at h6
        obtain ⟨h8, _⟩ := Array.getElem?_eq_some_iff.1 h6
        simpa using h8
      omega
    refine hK.out _ _ ko2 (fun hHeld => ?_)
    clear hK K hcl hasc hb2 hb12 d0 d1 d2 df HAS HM1
    have d0 : w2.cell? ⟨w.heap.size + 1, 0, none⟩ = some (.int .i64 0) := by simp [World.cell?, HR2.out]
    have d1 : w2.cell? ⟨w.heap.size + 1, 1, none⟩ = some (.int .i64 0) := by simp [World.cell?, HR2.out]
    have d2 : w2.cell? ⟨w.heap.size + 1, 2, none⟩ = some (.slice none 0 0) := by simp [World.cell?, HR2.out]
    have df := (row3_of HR2.out).frozen
    refine wpAnyH_takeW (i := 9) (v := .agg #[.int .i64 o, .int .i64 (k : Int), .slice a2 l'.length c2]) rfl (by kernel_rfl) (by kernel_rfl) (by kernel_rfl) (fun _ _ _ h => h) (by rfl) (fun W hC => by go_simp) hHeld ?_
    simp only [Act.put, List.setIfInBounds_toArray, List.set_cons_zero, List.set_cons_succ]
    have HP3 := hid (put3_heap HR2.out (.int .i64 o) (.int .i64 (k : Int)) (.slice a2 l'.length c2))
    have HK3 : Hid ((((w2.setCell ⟨w.heap.size + 1, 0, none⟩ (.int .i64 o)).setCell ⟨w.heap.size + 1, 1, none⟩ (.int .i64 (k : Int))).setCell ⟨w.heap.size + 1, 2, none⟩ (.slice a2 l'.length c2)).cell? ⟨g, k * 10 + 7, none⟩ = some (.int .i64 o)) := by
      refine (World.cell?_of_block (w := w2) (a := ⟨g, k * 10 + 7, none⟩) ?_).trans ko2
      rw [Below.heap_setCell _ _ _ _ HGG.out, Below.heap_setCell _ _ _ _ HGG.out, Below.heap_setCell _ _ _ _ HGG.out]
    have HEND := hid (HEE.out (((w2.setCell ⟨w.heap.size + 1, 0, none⟩ (.int .i64 o)).setCell ⟨w.heap.size + 1, 1, none⟩ (.int .i64 (k : Int))).setCell ⟨w.heap.size + 1, 2, none⟩ (.slice a2 l'.length c2)) (.slice a2 l'.length c2) l' (put3_below HB2.out (Nat.le_succ _) (g := w.heap.size + 1) _ _ _) (by
      refine ⟨HCL.out.1, ?_⟩
      have hge := HGE.out
      rcases HCL.out.2 with hn | ⟨g', cap', cur, e1, hb', hg', rest⟩
      · exact .inl hn
      · refine .inr ⟨g', cap', cur, e1, ?_, ?_, rest⟩
        · have h9 : w1.heap.size ≤ g' := hb'
          omega
        · have h9 : w1.heap.size ≤ g' := hb'
          rw [Below.heap_setCell _ _ _ _ (by show g' ≠ w.heap.size + 1; omega), Below.heap_setCell _ _ _ _ (by show g' ≠ w.heap.size + 1; omega), Below.heap_setCell _ _ _ _ (by show g' ≠ w.heap.size + 1; omega)]
          exact hg') HAC.out)
    refine wpAnyH_ready (rs := [10]) (by kernel_rfl) (by simp) ?_
    refine AllReadyH.consW rfl (fun K hK => ?_) AllReadyH.nil
    go_simp
    refine hK.out _ _ HK3.out (fun hHeld => ?_)
    clear hK K
    refine wpAnyH_takeW (i := 11) (v := .nilIface) rfl (by kernel_rfl) (by kernel_rfl) (by kernel_rfl) (fun _ _ _ h => h) (by rfl) (fun W hC => by go_simp) hHeld ?_
    simp only [Act.put, List.setIfInBounds_toArray, List.set_cons_zero, List.set_cons_succ]
    refine wpAnyH_done (by kernel_rfl) ?_ _
    clear hHeld ko ko2 HEE HCL HAC HK3 HR2 HR1 d0 d1 d2 df
    go_wp2_with fail
    (try simp only [Exit.inBlock, Exit.then])
    refine bodyPost_ret (results_ctM rfl _ _ (w.heap.size + 1) 30 #[.int .i64 o, .int .i64 (k : Int), .slice a2 l'.length c2] (0, 0) _ rfl HP3.out Try.underlying30 rfl (by kernel_rfl)) rfl ?_
    exact HEND.out

end Go.Proofs.Ytgcjpddpolaofai

namespace Go.Proofs.Ytgcjpddpolaofai
open Go.RowKit Go.Maps

theorem asc_pairs : ∀ {us vs : List (Int × Int)}, us.Pairwise (fun a b => a.1 < b.1) → vs.Pairwise (fun a b => a.1 < b.1) → (∀ x, x ∈ us ↔ x ∈ vs) → us = vs
  | [], [], _, _, _ => rfl
  | [], v :: vs, _, _, h => by have := (h v).2 (List.mem_cons_self ..); cases this
  | u :: us, [], _, _, h => by have := (h u).1 (List.mem_cons_self ..); cases this
  | u :: us, v :: vs, hu, hv, h => by
    rw [List.pairwise_cons] at hu hv
    have huv : u = v := by
      rcases List.mem_cons.1 ((h u).1 (List.mem_cons_self ..)) with e | e
      · exact e
      · rcases List.mem_cons.1 ((h v).2 (List.mem_cons_self ..)) with e2 | e2
        · exact e2.symm
        · have h1 := hv.1 u e
          have h2 := hu.1 v e2
          omega
    subst huv
    congr 1
    refine asc_pairs hu.2 hv.2 (fun x => ?_)
    constructor
    · intro hx
      rcases List.mem_cons.1 ((h x).1 (List.mem_cons_of_mem _ hx)) with e | e
      · subst e
        have := hu.1 x hx
        omega
      · exact e
    · intro hx
      rcases List.mem_cons.1 ((h x).2 (List.mem_cons_of_mem _ hx)) with e | e
      · subst e
        have := hv.1 x hx
        omega
      · exact e
theorem AscC.unique {cs l1 l2 : List (Int × Int)} (h1 : AscC cs l1) (h2 : AscC cs l2) : l1 = l2 := asc_pairs h1.1 h2.1 (fun x => by
  obtain ⟨a, b⟩ := x
  rw [h1.2 a b, h2.2 a b])
theorem mgo_more (p : Nat) (L : List InsZ) (limit : Nat) : ∀ (f : Nat) (s : RM) (done l : List (List Int)) (cs : List (Int × Int)), mgo p L limit f s done = .good l cs → done.length < l.length
  | 0, _, _, _, _, h => by simp [mgo] at h
  | f + 1, s, done, l, cs, h => by
    rw [mgo] at h
    split at h
    · cases h
    · split at h
      · cases h
      · split at h
        · cases h
        · split at h
          · injection h with h1 _
            rw [← h1]
            simp
          · have := mgo_more p L limit f _ _ l cs h
            simp at this
            omega
/-- another limit -/
theorem mgo_other (p : Nat) (L : List InsZ) (limit other : Nat) : ∀ (f f2 : Nat) (s : RM) (done l : List (List Int)) (cs : List (Int × Int)), mgo p L limit f s done = .good l cs → done.length ≤ other → done.length + f2 = other + 1 → mgo p L other f2 s done = if other < l.length - 1 then .bad 8 else .good l cs
  | 0, _, _, _, _, _, h, _, _ => by simp [mgo] at h
  | f + 1, 0, _, _, _, _, _, h1, h2 => by omega
  | f + 1, f2 + 1, s, done, l, cs, h, h1, h2 => by
    have hm := mgo_more p L limit _ _ _ _ _ h
    rw [mgo] at h ⊢
    split at h
    · cases h
    · rename_i hpc
      rw [if_neg hpc]
      split at h
      · cases h
      · rename_i hlm
        split at h
        · cases h
        · rename_i her
          split at h
          · rename_i hop
            rw [if_neg (fun hh => hh.2 hop), if_neg her, if_pos hop]
            injection h with e1 e2
            have hl : l.length = done.length + 1 := by rw [← e1]; simp
            rw [if_neg (by omega), e1, e2]
          · rename_i hop
            have hm2 := mgo_more p L limit _ _ _ _ _ h
            simp at hm2
            by_cases hd : done.length = other
            · rw [if_pos ⟨hd, hop⟩, if_pos (by omega)]
            · rw [if_neg (fun hh => hd hh.1), if_neg her, if_neg hop]
              exact mgo_other p L limit other f f2 _ _ l cs h (by simp; omega) (by simp; omega)
theorem mwalk_other {p : Nat} {size : Int} {L : List InsZ} {limit : Nat} (other : Nat) {l : List (List Int)} {cs : List (Int × Int)} (h : mwalk p size L limit = .good l cs) : mwalk p size L other = if other < l.length - 1 then .bad 8 else .good l cs :=
  mgo_other p L limit other _ _ _ _ l cs h (by simp) (by simp)

end Go.Proofs.Ytgcjpddpolaofai

namespace Go.Proofs.Ytgcjpddpolaofai
open Go.RowKit Go.Maps

theorem celv_int : ∀ (l : List (Int × Int)) (m : Nat), m < (celv l).length → ∃ x, (celv l)[m]? = some (.int .i64 x) := fun l m hm => by
  rw [celv_len] at hm
  obtain ⟨h1, h2⟩ := celv_at l (m / 2) (by omega)
  have : m = m / 2 * 2 ∨ m = m / 2 * 2 + 1 := by omega
  rcases this with e | e
  · rw [e]; exact ⟨_, h1⟩
  · rw [e]; exact ⟨_, h2⟩
theorem CelR.cellsM {base : Nat} {w : World} {v : Value} {l : List (Int × Int)} (h : CelR base w v l) (h0 : 0 < l.length) : ∃ g cap, v = .slice (some ⟨g, 0, none⟩) l.length cap ∧ ∀ m x, (celv l)[m]? = some (.int .i64 x) → w.cell? ⟨g, m, none⟩ = some (.int .i64 x) := by
  have h' := h
  rcases h.2 with ⟨_, hn⟩ | ⟨g, cap, cur, rfl, hb, hg, hn, hm, hs, ht⟩
  · omega
  · refine ⟨g, cap, rfl, fun m x hx => ?_⟩
    have := World.ownsRow.cells h' (g := g) rfl m _ hx
    have hadd : (⟨g, 0, none⟩ : Addr).add m = ⟨g, 0 + m, none⟩ := by unfold Addr.add; split <;> simp_all
    rw [hadd, Nat.zero_add] at this
    exact this
theorem CelR.belowM {base : Nat} {w w' : World} {v : Value} {l : List (Int × Int)} (h : CelR base w v l) (e : Below w.heap.size w w') : CelR base w' v l := by
  refine ⟨h.1, ?_⟩
  rcases h.2 with hn | ⟨g, cap, cur, h1, hb, hg, rest⟩
  · exact .inl hn
  · exact .inr ⟨g, cap, cur, h1, hb, (e.block _ (Array.getElem?_eq_some_iff.1 hg).1).trans hg, rest⟩
theorem neq_cell (y0 y1 : Int) (w : World) : (binOp BinOp.neq 52 (.agg #[.int .i64 y0, .int .i64 y1]) (.agg #[.int .i64 y0, .int .i64 y1])).run Try.prog w = .ok (.bool false) w := by
  simp [go_sem]

end Go.Proofs.Ytgcjpddpolaofai

namespace Go.Proofs.Ytgcjpddpolaofai
open Go.RowKit Go.Maps

set_option maxRecDepth 100000 in
theorem plain6_yes (q : Nat) (w : World) (h3 : 3 ≤ q) (h4 : q ≤ 2147483647) (hpr : Num.Prime q) :
    Calls Try.prog 5 #[.int .i64 q] w fun e w' => e = .returned (.pointer (some ⟨w.heap.size, 0, none⟩)) ∧ w'.cell? ⟨w.heap.size, 0, none⟩ = some (.int .i64 q) ∧ Below w.heap.size w w' := by
  have HF := hid (new_yes q w h3 h4 hpr)
  clear hpr
  go_enter Try.func5, Try.ntmps5
  go_wp2_with fail
  refine HF.out.mono ?_
  rintro e w1 ⟨rfl, hc1, hb1, hlt1⟩
  have HE : Hid (w1.cell? ⟨w.heap.size, 0, none⟩ = some (.int .i64 q) ∧ Below w.heap.size w w1) := ⟨hc1, hb1⟩
  clear hc1 hb1 HF
  go_wp2_with fail
  go_ret
  exact ⟨rfl, HE.out⟩
set_option maxRecDepth 100000 in
theorem plain6_no (p : Int) (w : World) (hno : ¬ okPrime p) (hp1 : -9223372036854775808 ≤ p) (hp2 : p ≤ 9223372036854775807) :
    Calls Try.prog 5 #[.int .i64 p] w fun e w' => e = .returned (.pointer none) ∧ w' = w := by
  have HF := hid (new_no p w hno hp1 hp2)
  clear hno hp1 hp2
  go_enter Try.func5, Try.ntmps5
  go_wp2_with fail
  refine HF.out.mono ?_
  rintro e w1 ⟨rfl, rfl⟩
  go_wp2_with fail
  go_ret
  exact ⟨rfl, rfl⟩

theorem prime97M : Num.Prime 97 := by
  refine ⟨by decide, fun d hd => ?_⟩
  have hle : d ≤ 97 := Nat.le_of_dvd (by decide) hd
  have key : ∀ e, e ≤ 97 → 97 % e = 0 → e = 1 ∨ e = 97 := by decide
  exact key d hle (Nat.mod_eq_zero_of_dvd hd)
/-- chapter 10's example -/
def exL : List InsZ := [⟨5, 0, 5, 0⟩, ⟨5, 1, -1, 0⟩, ⟨3, 0, 1, 2⟩, ⟨0, 2, 0, 0⟩]
def exC : List (Int × Int) := [(0, 0), (1, 5), (2, 96), (3, 92)]
theorem ex_walk : ∃ l, mwalk 97 3 exL 3 = .good l exC ∧ l.length = 4 ∧ outv l = 92 := ⟨_, rfl, rfl, rfl⟩
theorem ex_cells {l : List (Int × Int)} (h : AscC exC l) : l.length = 3 := by
  have hx : AscC exC [(1, 5), (2, 96), (3, 92)] := by
    refine ⟨by decide, fun x y => ?_⟩
    by_cases h0 : x = 0
    · subst h0; simp
    · by_cases h1 : x = 1
      · subst h1
        simp [cvl, finz, exC, cat, I64, List.findIdx?_cons]
        omega
      · by_cases h2 : x = 2
        · subst h2
          simp [cvl, finz, exC, cat, I64, List.findIdx?_cons]
          omega
        · by_cases h3 : x = 3
          · subst h3
            simp [cvl, finz, exC, cat, I64, List.findIdx?_cons]
            omega
          · have hm : finz exC x = -1 := finz_miss (fun j hj => by
              have : j = 0 ∨ j = 1 ∨ j = 2 ∨ j = 3 := by simp [exC] at hj; omega
              rcases this with rfl | rfl | rfl | rfl <;> simp [cat, exC] <;> omega)
            rw [hm]
            simp [h1, h2, h3]
  rw [h.unique hx]
  rfl
theorem ex_bounds : InsB exL := fun k hk => by
  have : k = 0 ∨ k = 1 ∨ k = 2 ∨ k = 3 := by simp [exL] at hk; omega
  rcases this with rfl | rfl | rfl | rfl <;> decide

set_option maxRecDepth 100000 in
set_option maxHeartbeats 2000000 in
theorem lives6_any (SO : SrtAs) (w : World) : Calls Try.prog 4 #[] w fun e w' => e = .returned (.bool true) ∧ Below w.heap.size w w' := by
  have HF := hid (plain6_yes 97 w (by decide) (by decide) prime97M)
  have HSO := hid SO
  clear SO
  go_enter Try.func4, Try.ntmps4
  go_wp2_with fail
  refine HF.out.mono ?_
  rintro e w1 ⟨rfl, hc1, hb1⟩
  have HB1 := hid hb1
  clear hb1 HF
  go_wp2_with fail
  obtain ⟨V, hV⟩ : ∃ V, V = w1.alloc (.cells #[.int .i64 5, .int .i64 0, .int .i64 5, .int .i64 0, .int .i64 5, .int .i64 1, .int .i64 (-1), .int .i64 0, .int .i64 3, .int .i64 0, .int .i64 1, .int .i64 2, .int .i64 0, .int .i64 2, .int .i64 0, .int .i64 0] 44) := ⟨_, rfl⟩
  obtain ⟨W2, hW2⟩ : ∃ W2, W2 = V.alloc (.cells #[.int .i64 3, .slice (some ⟨w1.heap.size, 0, none⟩) 4 4] 24) := ⟨_, rfl⟩
  have b1 : Below w1.heap.size w1 V := by rw [hV]; exact (Below.refl _ _).alloc (Nat.le_refl _) _
  have b2 : Below V.heap.size V W2 := by rw [hW2]; exact (Below.refl _ _).alloc (Nat.le_refl _) _
  have hs : V.heap.size = w1.heap.size + 1 := by rw [hV]; simp
  have hs2 : W2.heap.size = V.heap.size + 1 := by rw [hW2]; simp
  have b12 := b1.trans (b2.mono b1.size)
  have hrow : W2.heap[w1.heap.size]? = some (.cells #[.int .i64 5, .int .i64 0, .int .i64 5, .int .i64 0, .int .i64 5, .int .i64 1, .int .i64 (-1), .int .i64 0, .int .i64 3, .int .i64 0, .int .i64 1, .int .i64 2, .int .i64 0, .int .i64 2, .int .i64 0, .int .i64 0] 44 (0, 0)) := (b2.block _ (by omega)).trans (by rw [hV]; exact heap_alloc_new w1 _)
  have HLI : Hid (LstI W2.heap.size W2 (some ⟨w1.heap.size, 0, none⟩) 4 exL) := by
    refine ⟨fun k hk => ⟨w1.heap.size, 0, rfl, by omega, ?_⟩, Nat.le_refl _, fun h => by cases h⟩
    have : k = 0 ∨ k = 1 ∨ k = 2 ∨ k = 3 := by simp [exL] at hk; omega
    rcases this with rfl | rfl | rfl | rfl <;> simp [World.cell?, hrow, insat, exL]
  have HRN := hid (prun_any HSO.out 97 w.heap.size 3 3 (some ⟨w1.heap.size, 0, none⟩) 4 exL W2 (by decide) (by decide) prime97M ((b12.cell (p := ⟨w.heap.size, 0, none⟩) (World.block_lt_of_cell? _ _ hc1)).trans hc1) (by decide) HLI.out ex_bounds)
  have HB2 := hid (HB1.out.trans (b12.mono HB1.out.size))
  rw [← hV, ← hW2]
  clear hV hW2 b1 b2 hs hs2 b12 hrow HLI HSO HB1 hc1
  refine HRN.out.mono ?_
  rintro e w3 ⟨hb3, hr3⟩
  obtain ⟨l, hX, hl4, hou⟩ := ex_walk
  have hf0 : ¬ fz6 ((97 : Nat) : Int) 3 exL.length 3 ≠ 0 := by decide
  rw [if_neg hf0, show (3 : Int).toNat = 3 from rfl, hX] at hr3
  obtain ⟨v, l', rfl, hcl, hasc⟩ := hr3
  have hl3 := ex_cells hasc
  obtain ⟨a3, c3, rfl⟩ := hcl.form
  rw [hl3, hou, hl4]
  have HB3 := hid (HB2.out.trans (hb3.mono HB2.out.size))
  clear hb3 HRN HB2 hX hl4 hou hf0 hcl hasc hl3
  go_wp2_with fail
  go_ret
  exact ⟨rfl, HB3.out.alloc HB3.out.size _⟩

/-- what Run gives, in two -/
theorem RuR.cases {p : Nat} {size : Int} {L : List InsZ} {limit : Int} {w w' : World} {e : Ending} (h : RuR p size L limit w e w') :
    (∃ z, z ≠ 0 ∧ e = .returned (.tuple #[.agg #[.int .i64 0, .int .i64 0, .slice none 0 0], .iface 54 (.int .i64 z)]) ∧ ((fz6 (p : Int) size L.length limit ≠ 0 ∧ z = fz6 (p : Int) size L.length limit) ∨ (fz6 (p : Int) size L.length limit = 0 ∧ mwalk p size L limit.toNat = .bad z))) ∨
    (fz6 (p : Int) size L.length limit = 0 ∧ ∃ l cs a c l', mwalk p size L limit.toNat = .good l cs ∧ 0 < l.length ∧ e = .returned (.tuple #[.agg #[.int .i64 (outv l), .int .i64 ((l.length - 1 : Nat) : Int), .slice a l'.length c], .nilIface]) ∧ CelR w.heap.size w' (.slice a l'.length c) l' ∧ AscC cs l') := by
  obtain ⟨_, h2⟩ := h
  by_cases hz : fz6 (p : Int) size L.length limit ≠ 0
  · rw [if_pos hz, errV_nz hz] at h2
    exact .inl ⟨_, hz, h2, .inl ⟨hz, rfl⟩⟩
  · rw [if_neg hz] at h2
    have hz0 : fz6 (p : Int) size L.length limit = 0 := Decidable.byContradiction hz
    cases hX : mwalk p size L limit.toNat with
    | bad z =>
      rw [hX] at h2
      have hnz := mgo_bad _ _ _ _ _ _ _ hX
      have h2' : e = _ := h2
      rw [errV_nz hnz] at h2'
      exact .inl ⟨z, hnz, h2', .inr ⟨hz0, rfl⟩⟩
    | good l cs =>
      rw [hX] at h2
      obtain ⟨v, l', h5, h6, h7⟩ := h2
      obtain ⟨a, c, rfl⟩ := h6.form
      exact .inr ⟨hz0, l, cs, a, c, l', rfl, (mgo_len _ _ _ _ _ _ _ _ hX).1, h5, h6, h7⟩
theorem fz6_lim {p size : Int} {n : Nat} {l1 l2 : Int} (h : fz6 p size n l1 = 0) : fz6 p size n l2 = if l2 < 0 ∨ 16384 < l2 then 3 else 0 := by
  unfold fz6 at h ⊢
  split at h
  · omega
  · rename_i h1
    rw [if_neg h1]

end Go.Proofs.Ytgcjpddpolaofai

namespace Go.Proofs
open Go.Shelf

def Try.sortC_ren : Go.Shelf.Ren := ⟨fun | 6 => 17 | 15 => 25 | 14 => 24 | 28 => 40 | 29 => 41 | 20 => 32 | 21 => 33 | 22 => 34 | 23 => 35 | 24 => 36 | 25 => 37 | 26 => 38 | 27 => 39 | 46 => 49 | 47 => 50 | 48 => 51 | 49 => 52 | 50 => 53 | 57 => 55 | n => n, fun | 22 => 28 | 24 => 52 | 25 => 69 | 3 => 3 | 39 => 75 | 0 => 0 | 53 => 89 | 55 => 91 | 4 => 4 | 46 => 82 | 45 => 81 | 50 => 86 | 5 => 5 | 9 => 9 | 66 => 94 | 70 => 98 | 76 => 100 | 77 => 101 | n => n, fun | n => n⟩
theorem Try.sortC : Go.Proofs.SlLaysF0.n6 Try.prog Try.sortC_ren := {
  mixed := by kernel_rfl
  f6 := ⟨Try.f17.name, by decide, Try.func17.trans (congrArg some (by kernel_rfl))⟩
  f14 := ⟨Try.f24.name, by decide, Try.func24.trans (congrArg some (by kernel_rfl))⟩
  f15 := Try.func25.trans (congrArg some (by kernel_rfl))
  f20 := ⟨Try.f32.name, by decide, Try.func32.trans (congrArg some (by kernel_rfl))⟩
  f21 := ⟨Try.f33.name, by decide, Try.func33.trans (congrArg some (by kernel_rfl))⟩
  f22 := ⟨Try.f34.name, by decide, Try.func34.trans (congrArg some (by kernel_rfl))⟩
  f23 := ⟨Try.f35.name, by decide, Try.func35.trans (congrArg some (by kernel_rfl))⟩
  f24 := ⟨Try.f36.name, by decide, Try.func36.trans (congrArg some (by kernel_rfl))⟩
  f25 := ⟨Try.f37.name, by decide, Try.func37.trans (congrArg some (by kernel_rfl))⟩
  f26 := ⟨Try.f38.name, by decide, Try.func38.trans (congrArg some (by kernel_rfl))⟩
  f27 := ⟨Try.f39.name, by decide, Try.func39.trans (congrArg some (by kernel_rfl))⟩
  f28 := Try.func40.trans (congrArg some (by kernel_rfl))
  f29 := Try.func41.trans (congrArg some (by kernel_rfl))
  f46 := ⟨Try.f49.name, by decide, Try.func49.trans (congrArg some (by kernel_rfl))⟩
  f47 := Try.func50.trans (congrArg some (by kernel_rfl))
  f48 := Try.func51.trans (congrArg some (by kernel_rfl))
  f49 := ⟨Try.f52.name, by decide, Try.func52.trans (congrArg some (by kernel_rfl))⟩
  f50 := ⟨Try.f53.name, by decide, Try.func53.trans (congrArg some (by kernel_rfl))⟩
  f57 := ⟨Try.f55.name, by decide, Try.func55.trans (congrArg some (by kernel_rfl))⟩
  t0 := Try.underlying0
  a0 := Try.isAgg0
  z0 := Try.sizeOf0
  v0 := Try.zeroValue0
  t3 := Try.underlying3
  a3 := Try.isAgg3
  z3 := Try.sizeOf3
  v3 := Try.zeroValue3
  t4 := Try.underlying4
  a4 := Try.isAgg4
  z4 := Try.sizeOf4
  v4 := Try.zeroValue4
  t5 := Try.underlying5
  a5 := Try.isAgg5
  z5 := Try.sizeOf5
  v5 := Try.zeroValue5
  t9 := Try.underlying9
  a9 := Try.isAgg9
  z9 := Try.sizeOf9
  v9 := Try.zeroValue9
  t22 := Try.underlying28
  a22 := Try.isAgg28
  z22 := Try.sizeOf28
  v22 := Try.zeroValue28
  t25 := Try.underlying69
  a25 := Try.isAgg69
  z25 := Try.sizeOf69
  v25 := Try.zeroValue69
  t39 := Try.underlying75
  a39 := Try.isAgg75
  z39 := Try.sizeOf75
  v39 := Try.zeroValue75
  t45 := Try.underlying81
  a45 := Try.isAgg81
  z45 := Try.sizeOf81
  v45 := Try.zeroValue81
  t46 := Try.underlying82
  a46 := Try.isAgg82
  z46 := Try.sizeOf82
  v46 := Try.zeroValue82
  t50 := Try.underlying86
  a50 := Try.isAgg86
  z50 := Try.sizeOf86
  v50 := Try.zeroValue86
  t53 := Try.underlying89
  a53 := Try.isAgg89
  z53 := Try.sizeOf89
  v53 := Try.zeroValue89
  t55 := Try.underlying91
  a55 := Try.isAgg91
  z55 := Try.sizeOf91
  v55 := Try.zeroValue91
  t66 := Try.underlying94
  a66 := Try.isAgg94
  z66 := Try.sizeOf94
  v66 := Try.zeroValue94
  t70 := Try.underlying98
  a70 := Try.isAgg98
  z70 := Try.sizeOf98
  v70 := Try.zeroValue98
  t76 := Try.underlying100
  a76 := Try.isAgg100
  z76 := Try.sizeOf100
  v76 := Try.zeroValue100
  t77 := Try.underlying101
  a77 := Try.isAgg101
  z77 := Try.sizeOf101
  v77 := Try.zeroValue101 }
end Go.Proofs

namespace Go.Proofs.Ytgcjpddpolaofai
open Go.RowKit Go.Maps

set_option maxHeartbeats 1000000 in
theorem nani_any (x : Int) (w : World) : Calls Try.prog 26 #[.int .i64 x] w fun e w' => e = .returned (.bool false) ∧ w' = w := by
  go_enter Try.func26, Try.ntmps26
  go_wp2_with fail
  go_ret
  exact ⟨by simp, rfl⟩

set_option maxHeartbeats 1000000 in
theorem cmpi_any (x y : Int) (w : World) : Calls Try.prog 19 #[.int .i64 x, .int .i64 y] w fun e w' => e = .returned (.int .i64 (Lib.compareInt x y)) ∧ w' = w := by
  go_enter Try.func19, Try.ntmps19
  go_wp2_with fail
  refine (nani_any x _).mono ?_
  rintro e w1 ⟨rfl, h1⟩
  rw [h1]
  go_wp2_with fail
  refine (nani_any y _).mono ?_
  rintro e w2 ⟨rfl, h2⟩
  rw [h2]
  go_wp2_with fail
  all_goals (go_ret; refine ⟨?_, rfl⟩; unfold Lib.compareInt; (repeat' split) <;> first | rfl | (exfalso; omega))

set_option maxHeartbeats 1000000 in
/-- ascending's own comparison -/
theorem casc_any (x y : Int × Int) (W : World) : Calls Try.prog 18 #[.agg #[.int .i64 x.1, .int .i64 x.2], .agg #[.int .i64 y.1, .int .i64 y.2]] W fun e w' => e = .returned (.int .i64 (Lib.compareInt x.1 y.1)) ∧ ∃ q os', w' = Sort.grow (W.drewN q) os' := by
  have hcon := fun W' => cmpi_any x.1 y.1 W'
  generalize Lib.compareInt x.1 y.1 = r at hcon ⊢
  go_enter Try.func18, Try.ntmps18
  go_wp2_with fail
  refine (hcon _).mono ?_
  rintro e w' ⟨rfl, rfl⟩
  go_wp2_with fail
  go_ret
  exact ⟨rfl, 0, _, by rw [Sort.alloc_eq_grow, Sort.alloc_eq_grow, Sort.grow_grow]; rfl⟩

end Go.Proofs.Ytgcjpddpolaofai

namespace Go.Proofs.Ytgcjpddpolaofai
open Go.RowKit Go.Maps

/-- a cell's two numbers -/
def enc2 (x : Int × Int) : List Value := [.int .i64 x.1, .int .i64 x.2]
def cf2 (x y : Int × Int) : Int := Lib.compareInt x.1 y.1
theorem lt2 (x y : Int × Int) : ltOf cf2 x y = decide (x.1 < y.1) := by
  unfold ltOf cf2 Lib.compareInt
  by_cases h1 : x.1 < y.1
  · simp [h1]
  · by_cases h2 : y.1 < x.1 <;> simp [h1, h2]
theorem swo2 : Sort.SWO (ltOf cf2) where
  irrefl x := by rw [lt2]; simp
  trans x y z h1 h2 := by rw [lt2] at *; simp at *; omega
  ntrans x y z h1 h2 := by rw [lt2] at *; simp at *; omega

theorem celv_flat (l : List (Int × Int)) (t : Nat) (h : t < l.length * 2) : (celv l)[t]? = some (Sort.flatK enc2 2 l.toArray)[t]! := by
  rw [Sort.get_flatK enc2 2 _ t (by simpa using h)]
  have hj : t / 2 < l.length := by omega
  have hc : (l.toArray)[t / 2]! = cat l (t / 2) := by
    rw [getElem!_pos _ _ (by simpa using hj)]
    simp [cat, hj]
  rw [hc]
  have ha := celv_at l (t / 2) hj
  rcases Nat.mod_two_eq_zero_or_one t with h0 | h0
  · rw [h0]
    have e : t / 2 * 2 = t := by omega
    rw [e] at ha
    exact ha.1
  · rw [h0]
    have e : t / 2 * 2 + 1 = t := by omega
    rw [e] at ha
    exact ha.2

theorem srt_perm {l : List (Int × Int)} {d' : Array (Int × Int)} (h : Sort.PermIn 0 l.toArray.size l.toArray d') : d'.size = l.length ∧ d'.toList.Perm l := by
  obtain ⟨h1, _, h3⟩ := h
  have h1' : d'.size = l.length := by simpa using h1
  refine ⟨h1', ?_⟩
  have e1 : (d'.extract 0 l.toArray.size) = d' := by
    rw [← h1]
    simp
  have e2 : (l.toArray.extract 0 l.toArray.size).toList = l := by simp
  rw [e1, e2] at h3
  exact h3

theorem srt_up {n : Nat} {d' : Array (Int × Int)} (hn : d'.size = n) (h : Sort.SortedIn (ltOf cf2) 0 n d') : d'.toList.Pairwise (fun a b => a.1 ≤ b.1) := by
  rw [List.pairwise_iff_getElem]
  intro i j hi hj hij
  have hi' : i < d'.size := by simpa using hi
  have hj' : j < d'.size := by simpa using hj
  have := h i j (Nat.zero_le _) hij (by omega)
  rw [lt2, getElem!_pos d' i hi', getElem!_pos d' j hj'] at this
  have h2 := of_decide_eq_false this
  simp only [Array.getElem_toList]
  omega

theorem srt_heap (W : World) (g n : Nat) (d' : Array (Int × Int)) (os : Array Obj) (k : Nat) (hk : k < W.heap.size) :
    (sortWorldK enc2 2 W g 0 n d' os).heap[k]? = if g = k then (W.heap[k]?).map (Sort.onCells (Sort.putCells id 0 (Sort.flatK enc2 2 d'))) else W.heap[k]? := by
  show ((W.heap.modify g (Sort.onCells (Sort.putCells id 0 (Sort.flatK enc2 2 d')))) ++ os)[k]? = _
  rw [Array.getElem?_append_left (by simpa using hk), Array.getElem?_modify]

theorem srt_cel {base : Nat} {W : World} {g cap : Nat} {l : List (Int × Int)} (h : CelR base W (.slice (some ⟨g, 0, none⟩) l.length cap) l) (hg0 : g < W.heap.size) (n : Nat) (d' : Array (Int × Int)) (os : Array Obj) (hd : d'.size = l.length) :
    CelR base (sortWorldK enc2 2 W g 0 n d' os) (.slice (some ⟨g, 0, none⟩) l.length cap) d'.toList := by
  obtain ⟨h1, h2⟩ := h
  have hdl : d'.toList.length = l.length := by simpa using hd
  refine ⟨celv_len _, .inr ?_⟩
  rcases h2 with ⟨h2, _⟩ | ⟨g', cap', cur, hv, hb, hgc, hn, hm, hs, ht⟩
  · cases h2
  · injection hv with hv1 hv2 hv3
    injection hv1 with hv1
    injection hv1 with hv1
    subst hv1 hv3
    refine ⟨g, cap, Sort.putCells id 0 (Sort.flatK enc2 2 d') cur, by rw [hdl], hb, ?_, by rw [hdl]; exact hn, hm, by simpa [Sort.putCells] using hs, ?_⟩
    · rw [srt_heap W g n d' os g hg0, if_pos rfl, hgc]
      rfl
    · apply List.ext_getElem?
      intro t
      by_cases hlt : t < d'.toList.length * 2
      · have hcu : t < cur.size := by rw [hs]; rw [hdl] at hlt; omega
        rw [List.getElem?_take_of_lt hlt, celv_flat _ t hlt]
        rw [Array.getElem?_toList]
        unfold Sort.putCells
        rw [Array.getElem?_mapIdx, Array.getElem?_eq_getElem hcu, Option.map_some, if_pos ⟨Nat.zero_le _, by rw [Sort.size_flatK]; rw [hdl] at hlt; omega⟩]
        rfl
      · rw [List.getElem?_take_eq_none (by omega), List.getElem?_eq_none (by rw [celv_len]; omega)]

theorem srt_below {base : Nat} {W : World} {g : Nat} (hb : base ≤ g) (hg0 : g < W.heap.size) (n : Nat) (d' : Array (Int × Int)) (os : Array Obj) : Below base W (sortWorldK enc2 2 W g 0 n d' os) := by
  refine ⟨rfl, rfl, rfl, size_sortWorldK_c enc2 2 W g 0 n d' os, fun k hk => ?_⟩
  rw [srt_heap W g n d' os k (by omega), if_neg (by omega)]

theorem srtAs : SrtAs := by
  intro base v l W h hl hb
  have h' := h
  rcases h'.2 with ⟨rfl, h0⟩ | ⟨g, cap, cur, rfl, hbg, hg, hn, hm, hs, ht⟩
  · have hl0 : l = [] := List.length_eq_zero_iff.1 h0
    subst hl0
    have hcon := AnyF.slices_SortFunc_none Try.sortC none 0 (.func (.func 18) #[] #[]) W
    refine Calls.mono hcon ?_
    rintro e w' ⟨rfl, rfl⟩
    exact ⟨rfl, [], .refl _, .nil, h, .refl _ _⟩
  · have hg0 : g < W.heap.size := by
      rcases Nat.lt_or_ge g W.heap.size with h | h
      · exact h
      · rw [Array.getElem?_eq_none h] at hg
        cases hg
    have hH : Sort.HoldsK enc2 2 W g 0 l.toArray := by
      intro t hts
      have hts' : t < l.length * 2 := by simpa using hts
      rw [Nat.zero_add]
      have hcu : t < cur.size := by rw [hs]; omega
      have hc := celv_flat l t hts'
      rw [← ht, List.getElem?_take_of_lt hts'] at hc
      constructor
      · unfold World.cell?
        rw [hg]
        simpa using hc
      · unfold World.frozen?
        rw [hg]
        simp
    have hcon := AnyQ.slices_SortFunc Try.sortC 2 Try.isAgg52 Try.sizeOf52 enc2 (fun _ => rfl) (fun x v hv => by simp [enc2] at hv; rcases hv with rfl | rfl <;> rfl) cf2 swo2 18 #[] g 0 cap l.toArray W (enters_of Try.func18 (by kernel_rfl) rfl) (fun _ _ _ _ x y => casc_any x y _) hH hg0 (by simp; omega)
    have hsz : l.toArray.size = l.length := by simp
    refine Calls.mono (by rw [hsz] at hcon; exact hcon) ?_
    rintro e w' ⟨rfl, d', n, os, hp, hso, rfl⟩
    rw [← hsz] at hp
    obtain ⟨hd, hpm⟩ := srt_perm hp
    exact ⟨rfl, d'.toList, hpm, srt_up hd hso, srt_cel h hg0 n d' os hd, srt_below hbg hg0 n d' os⟩

end Go.Proofs.Ytgcjpddpolaofai

namespace Go.Proofs.Ytgcjpddpolaofai
open Go.RowKit Go.Maps

/-- what a machine shows is told, and what was told stays -/
def Okk (p : Nat) (cs0 : List (Int × Int)) (s : RM) : Prop := s.err = 0 → Zer s.cs ∧ (∀ j, 0 ≤ finz s.cs (s.at' j) ∧ cvl s.cs (s.at' j) = s.is' j) ∧ (∀ u, 0 ≤ finz cs0 u → 0 ≤ finz s.cs u ∧ cvl s.cs u = cvl cs0 u) ∧ (∀ u, 0 ≤ finz s.cs u → 0 ≤ u ∧ u < p)
theorem upd_two (f g : Nat → Int) (k : Nat) (x y : Int) (j : Nat) : (updM f k x j = x ∧ updM g k y j = y) ∨ (updM f k x j = f j ∧ updM g k y j = g j) := by
  unfold updM
  split
  · exact .inl ⟨rfl, rfl⟩
  · exact .inr ⟨rfl, rfl⟩
theorem okk_look {p : Nat} {cs0 : List (Int × Int)} {s : RM} (h : Okk p cs0 s) (x : Int) : Okk p cs0 (s.look x).1 := by
  by_cases he : s.err = 0
  · obtain ⟨h1, h2, h3, h4⟩ := h he
    rw [look_eq he]
    by_cases hx : 0 ≤ finz s.cs x
    · rw [if_pos hx]
      intro _
      refine ⟨h1, fun j => ?_, h3, h4⟩
      show 0 ≤ finz s.cs (updM s.at' s.slot x j) ∧ cvl s.cs (updM s.at' s.slot x j) = updM s.is' s.slot (cvl s.cs x) j
      rcases upd_two s.at' s.is' s.slot x (cvl s.cs x) j with ⟨e1, e2⟩ | ⟨e1, e2⟩
      · rw [e1, e2]; exact ⟨hx, rfl⟩
      · rw [e1, e2]; exact h2 j
    · rw [if_neg hx]
      intro e
      exact absurd (show (10 : Int) = 0 from e) (by decide)
  · rw [look_err he]
    exact h
theorem okk_tell {p : Nat} {cs0 : List (Int × Int)} {s : RM} (h : Okk p cs0 s) (x y : Int) (hx : 0 ≤ x ∧ x < p) : Okk p cs0 (s.tell p x y) := by
  by_cases he : s.err = 0
  · obtain ⟨h1, h2, h3, h4⟩ := h he
    rw [tell_eq he]
    by_cases ht : (tel s.cs x (y % (p : Int))).1 = 0
    · rw [if_pos ht]
      intro _
      have hxx : 0 ≤ finz (tel s.cs x (y % (p : Int))).2 x := by rw [(tel_same ht).1]; exact tld_finz.2 (.inr rfl)
      refine ⟨h1.tel ht, fun j => ?_, fun u hu => ?_, fun u hu => ?_⟩
      · show 0 ≤ finz (tel s.cs x (y % (p : Int))).2 (updM s.at' s.slot x j) ∧ cvl (tel s.cs x (y % (p : Int))).2 (updM s.at' s.slot x j) = updM s.is' s.slot (y % (p : Int)) j
        rcases upd_two s.at' s.is' s.slot x (y % (p : Int)) j with ⟨e1, e2⟩ | ⟨e1, e2⟩
        · rw [e1, e2]; exact ⟨hxx, tel_is ht⟩
        · rw [e1, e2]
          have hk := tel_keep ht (h2 j).1
          exact ⟨hk.2, hk.1.trans (h2 j).2⟩
      · have hk := tel_keep ht (h3 u hu).1
        exact ⟨hk.2, hk.1.trans (h3 u hu).2⟩
      · have hu' : 0 ≤ finz (tel s.cs x (y % (p : Int))).2 u := hu
        rw [(tel_same ht).1] at hu'
        rcases tld_finz.1 hu' with h5 | h5
        · exact h4 u h5
        · rw [h5]; exact hx
    · rw [if_neg ht]
      intro e
      exact absurd (show (7 : Int) = 0 from e) (by decide)
  · rw [tell_err he]
    exact h
theorem okk_must {p : Nat} {cs0 : List (Int × Int)} {s : RM} (h : Okk p cs0 s) (b : Bool) : Okk p cs0 (s.must b) := by
  unfold RM.must
  split
  · intro e
    exact absurd (show (7 : Int) = 0 from e) (by decide)
  · exact h
theorem okk_rck {p : Nat} {cs0 : List (Int × Int)} {s : RM} (h : Okk p cs0 s) (op y : Int) : Okk p cs0 (s.rck op y) := by
  unfold RM.rck
  split
  · exact okk_must h _
  · exact h
theorem okk_step {p : Nat} {cs0 : List (Int × Int)} {s : RM} (hp : 3 ≤ p) (h : Okk p cs0 s) (hr : 0 ≤ s.ap ∧ s.ap < p) (op a b c : Int) : Okk p cs0 (s.step p op a b c).1 := by
  have e := fun x => emod_bounds x p hp
  unfold RM.step
  split
  · unfold RM.three
    exact okk_tell (okk_rck (okk_look (okk_look h _) _) _ _) _ _ (e _)
  · split
    · exact okk_tell h _ _ (e _)
    · split
      · exact okk_must (okk_look (okk_look h _) _) _
      · split
        · exact h
        · split
          · exact okk_look h _
          · split
            · exact okk_tell (okk_tell h _ _ hr) _ _ (e _)
            · split
              · exact okk_look (okk_look (okk_look h _) _) _
              · split
                · exact okk_tell h _ _ (e _)
                · split
                  · exact okk_tell (okk_look h _) _ _ (e _)
                  · split
                    · exact okk_look h _
                    · intro e
                      exact absurd (show (7 : Int) = 0 from e) (by decide)
/-- a step's three cells, as they are told -/
def Tld3 (cs : List (Int × Int)) (x : List Int) : Prop := ∀ j, j < 3 → 0 ≤ finz cs (x.getD (4 + j) 0) ∧ cvl cs (x.getD (4 + j) 0) = x.getD (7 + j) 0
theorem now_tld {p : Nat} {cs0 : List (Int × Int)} {s : RM} (h : Okk p cs0 s) (he : s.err = 0) : Tld3 s.cs s.now ∧ s.now.length = 10 := by
  refine ⟨fun j hj => ?_, rfl⟩
  have h2 := (h he).2.1
  have : j = 0 ∨ j = 1 ∨ j = 2 := by omega
  rcases this with rfl | rfl | rfl
  · exact h2 0
  · exact h2 1
  · exact h2 2
theorem okk_fresh {p : Nat} {cs : List (Int × Int)} (hz : Zer cs) (hb : ∀ u, 0 ≤ finz cs u → 0 ≤ u ∧ u < (p : Int)) (n : Rg) : Okk p cs (freshM cs n) := fun _ => ⟨hz, fun _ => hz, fun _ hu => ⟨hu, rfl⟩, hb⟩
theorem mgo_once (p : Nat) (L : List InsZ) (limit : Nat) (hp : 3 ≤ p) : ∀ (f : Nat) (k : Nat) (n : Rg) (cs1 : List (Int × Int)) (done l : List (List Int)) (cs : List (Int × Int)), mgo p L limit f (freshM cs1 n) done = .good l cs → Zer cs1 → (∀ u, 0 ≤ finz cs1 u → 0 ≤ u ∧ u < (p : Int)) → SOk p k 0 (freshM cs1 n) → RgB p n → (∀ x, x ∈ done → Tld3 cs1 x ∧ x.length = 10) →
    Zer cs ∧ (∀ u, 0 ≤ finz cs u → 0 ≤ u ∧ u < (p : Int)) ∧ ∀ x, x ∈ l → Tld3 cs x ∧ x.length = 10
  | 0, _, _, _, _, _, _, h, _, _, _, _, _ => by simp [mgo] at h
  | f + 1, k, n, cs1, done, l, cs, h, hz, hb, hs, hr, hd => by
    rw [mgo] at h
    split at h
    · cases h
    · split at h
      · cases h
      · split at h
        · cases h
        · rename_i her
          generalize hop : (insat L (freshM cs1 n).pc.toNat).op = op at h her
          generalize (insat L (freshM cs1 n).pc.toNat).a = a at h her
          generalize (insat L (freshM cs1 n).pc.toNat).b = b at h her
          generalize (insat L (freshM cs1 n).pc.toNat).c = c at h her
          have he0 : ((freshM cs1 n).step p op a b c).1.err = 0 := Decidable.byContradiction her
          have hk := okk_step hp (okk_fresh hz hb n) hr.2.2.1 op a b c
          have hso := step_ok hp hs hr op a b c
          have hnow := now_tld hk he0
          obtain ⟨g1, g2, g3, g4⟩ := hk he0
          have hall : ∀ x, x ∈ done ++ [((freshM cs1 n).step p op a b c).1.now] → Tld3 ((freshM cs1 n).step p op a b c).1.cs x ∧ x.length = 10 := fun x hx => by
            rcases List.mem_append.1 hx with hx | hx
            · obtain ⟨hd1, hd2⟩ := hd x hx
              exact ⟨fun j hj => ⟨(g3 _ (hd1 j hj).1).1, (g3 _ (hd1 j hj).1).2.trans (hd1 j hj).2⟩, hd2⟩
            · rw [List.mem_singleton] at hx
              rw [hx]
              exact hnow
          split at h
          · injection h with h1 h2
            rw [← h1, ← h2]
            exact ⟨g1, g4, hall⟩
          · exact mgo_once p L limit hp f (k + 2) _ _ _ l cs h g1 g4 ⟨hso.1.1, hso.1.2.1, fun _ => Nat.le_refl _⟩ hso.2 hall
theorem mwalk_once {p : Nat} {size : Int} {L : List InsZ} {limit : Nat} {l : List (List Int)} {cs : List (Int × Int)} (hp : 3 ≤ p) (h : mwalk p size L limit = .good l cs) :
    Zer cs ∧ (∀ u, 0 ≤ finz cs u → 0 ≤ u ∧ u < (p : Int)) ∧ ∀ x, x ∈ l → Tld3 cs x ∧ x.length = 10 := by
  refine mgo_once p L limit hp _ 1 _ _ _ l cs h zer_first (fun u hu => ?_) ⟨fun j hj => ?_, Nat.le_refl _, fun _ => Nat.le_refl _⟩ ⟨⟨Int.le_refl _, by show (0 : Int) < p; omega⟩, ⟨by show (0 : Int) ≤ 1; omega, by show (1 : Int) < p; omega⟩, emod_bounds _ p hp, ⟨Int.le_refl _, by show (0 : Int) < p; omega⟩⟩ (fun x hx => by cases hx)
  · have : u = 0 := by
      rcases finz_cases [(0, 0)] u with e | ⟨i, _, hi, he⟩
      · omega
      · have : i = 0 := by simpa using hi
        subst this
        simpa [cat] using he.symm
    subst this
    exact ⟨Int.le_refl _, by omega⟩
  · have : j = 0 := by simpa [freshM] using hj
    subst this
    show 0 ≤ (0 : Int) ∧ (0 : Int) < p
    omega

end Go.Proofs.Ytgcjpddpolaofai

namespace Go.Proofs.Ytgcjpddpolaofai
open Go.RowKit Go.Maps

set_option maxRecDepth 100000 in
set_option maxHeartbeats 2000000 in
/-- what a run tells of a cell -/
theorem told6_any (o s x y : Int) (b1 : Nat) (v : Value) (l : List (Int × Int)) (w : World) (h : CelR b1 w v l) (hx : x ≠ 0) (hex : ∃ j, j < l.length ∧ (cat l j).1 = x) (hun : ∀ j, j < l.length → (cat l j).1 = x → (cat l j).2 = y) :
    Calls Try.prog 8 #[.agg #[.int .i64 o, .int .i64 s, v], .int .i64 x] w fun e w' => e = .returned (.int .i64 y) ∧ Below w.heap.size w w' := by
  obtain ⟨a1, d1, rfl⟩ := h.form
  have HAT := hid (fun j (hj : j < l.length) => h.at hj)
  have HEX := hid hex
  have HUN := hid hun
  obtain ⟨n, hn⟩ : ∃ n, n = l.length := ⟨_, rfl⟩
  have HN := hid hn
  have HLM : Hid (n ≤ maxLen) := by
    unfold Hid
    rcases h.2 with ⟨_, h0⟩ | ⟨g, cap, cur, _, _, _, hn', hm, _⟩
    · rw [hn, h0]; exact Nat.zero_le _
    · rw [hn]; omega
  rw [← hn] at HAT HEX HUN ⊢
  clear h hn hex hun
  obtain ⟨W0, hW0⟩ : ∃ W0, W0 = w.alloc (.cells #[.int .i64 o, .int .i64 s, .slice a1 n d1] 30) := ⟨_, rfl⟩
  have b1 : Below w.heap.size w W0 := by rw [hW0]; exact (Below.refl _ _).alloc (Nat.le_refl _) _
  have HB0 := hid b1
  have hr1 : W0.heap[w.heap.size]? = some (.cells #[.int .i64 o, .int .i64 s, .slice a1 n d1] 30 (0, 0)) := by rw [hW0]; exact heap_alloc_new w _
  have x2 : W0.cell? ⟨w.heap.size, 2, none⟩ = some (.slice a1 n d1) := by simp [World.cell?, hr1]
  have HX2 := hid x2
  have hx0 : (x == 0) = false := by simp [hx]
  clear b1 hr1 hx x2
  go_enter Try.func8, Try.ntmps8
  go_wp2_with fail
  rw [← hW0]
  clear hW0
  go_loopw [5] (fun u wr => ∃ (i m : Nat), i ≤ n ∧ u = .int .i64 (i : Int) ∧ Hid (wr = W0.drewN m) ∧ Hid (∀ j, j < i → (cat l j).1 ≠ x)) (fun u _ => n - (intOf u).toNat)
  case atStart => exact ⟨0, 0, Nat.zero_le _, rfl, rfl, fun j hj => absurd hj (Nat.not_lt_zero _)⟩
  case round =>
    obtain ⟨i, m, hi, rfl, HWr, HNO⟩ := hrel
    have x2 : wr.cell? ⟨w.heap.size, 2, none⟩ = some (.slice a1 n d1) := by rw [HWr.out]; exact HX2.out
    by_cases hlt : i < n
    · have hlt2 : (i : Int) < (n : Int) := by omega
      have hmx2 := HLM.out
      have his : IntKind.i64.wrap ((i : Int) + 1) = (i : Int) + 1 := by rw [IntKind.wrap_i64]; unfold maxLen at hmx2; omega
      obtain ⟨g, cap, e0, _, c0, c1⟩ := HAT.out i hlt
      injection e0 with e0 _ _
      subst e0
      have hbb : Below w.heap.size w wr := by rw [HWr.out]; exact HB0.out.trans ((belM W0 m).mono HB0.out.size)
      have p0 := (hbb.cell (p := ⟨g, i * 2, none⟩) (World.block_lt_of_cell? _ _ c0)).trans c0
      have p1 := (hbb.cell (p := ⟨g, i * 2 + 1, none⟩) (World.block_lt_of_cell? _ _ c1)).trans c1
      have HBW := hid hbb
      obtain ⟨z, hz⟩ : ∃ z, z = (cat l i).1 := ⟨_, rfl⟩
      obtain ⟨z1, hz1⟩ : ∃ z1, z1 = (cat l i).2 := ⟨_, rfl⟩
      rw [← hz] at p0
      rw [← hz1] at p1
      have HZ := hid hz
      have HZ1 := hid hz1
      clear hz hz1 c0 c1 hbb hmx2
      by_cases hxy : z = x
      · have hxb : (z == x) = true := by simp [hxy]
        have HY : Hid (z1 = y) := by unfold Hid; rw [HZ1.out]; exact HUN.out i hlt (by rw [← HZ.out]; exact hxy)
        clear hxy
        go_wp2_with fail
        go_ret
        rw [HY.out]
        exact ⟨rfl, HBW.out⟩
      · have hxb : (z == x) = false := by simp [hxy]
        have HI2 : Hid (∀ j, j < i + 1 → (cat l j).1 ≠ x) := fun j hj => by
          by_cases e : j = i
          · rw [e, ← HZ.out]; exact hxy
          · exact HNO.out j (by omega)
        clear hxy
        go_wp2_with fail
        go_roundw
        case rel => exact ⟨i + 1, m, by omega, by go_num, HWr, HI2⟩
        case measure => simp [intOf]; omega
    · exact absurd HEX.out (fun ⟨j, h1, h2⟩ => HNO.out j (by omega) h2)

set_option maxRecDepth 100000 in
theorem told6_zero (o s : Int) (v : Value) (w : World) :
    Calls Try.prog 8 #[.agg #[.int .i64 o, .int .i64 s, v], .int .i64 0] w fun e w' => e = .returned (.int .i64 0) ∧ Below w.heap.size w w' := by
  have HB0 : Hid (Below w.heap.size w (w.alloc (.cells #[.int .i64 o, .int .i64 s, v] 30))) := (Below.refl _ _).alloc (Nat.le_refl _) _
  go_enter Try.func8, Try.ntmps8
  go_wp2_with fail
  go_ret
  exact ⟨rfl, HB0.out⟩
/-- what Walk gives, in two -/
theorem WlR.cases {p : Nat} {size : Int} {L : List InsZ} {limit : Int} {w w' : World} {e : Ending} (h : WlR p size L limit w e w') :
    (∃ z, z ≠ 0 ∧ e = .returned (.tuple #[.slice none 0 0, .iface 54 (.int .i64 z)]) ∧ (fz6 (p : Int) size L.length limit ≠ 0 ∨ (fz6 (p : Int) size L.length limit = 0 ∧ mwalk p size L limit.toNat = .bad z))) ∨
    (fz6 (p : Int) size L.length limit = 0 ∧ ∃ l cs a c, mwalk p size L limit.toNat = .good l cs ∧ e = .returned (.tuple #[.slice a l.length c, .nilIface]) ∧ StR w.heap.size w' (.slice a l.length c) l) := by
  obtain ⟨_, h2⟩ := h
  by_cases hz : fz6 (p : Int) size L.length limit ≠ 0
  · rw [if_pos hz, errV_nz hz] at h2
    exact .inl ⟨_, hz, h2, .inl hz⟩
  · rw [if_neg hz] at h2
    have hz0 : fz6 (p : Int) size L.length limit = 0 := Decidable.byContradiction hz
    cases hX : mwalk p size L limit.toNat with
    | bad z =>
      rw [hX] at h2
      have hnz := mgo_bad _ _ _ _ _ _ _ hX
      have h2' : e = _ := h2
      rw [errV_nz hnz] at h2'
      exact .inl ⟨z, hnz, h2', .inr ⟨hz0, rfl⟩⟩
    | good l cs =>
      rw [hX] at h2
      obtain ⟨v, h5, h6⟩ := h2
      obtain ⟨a, c, rfl⟩ := h6.form
      exact .inr ⟨hz0, l, cs, a, c, rfl, h5, h6⟩

end Go.Proofs.Ytgcjpddpolaofai

namespace Go.Proofs.Ytgcjpddpolaofai
open Go.RowKit Go.Maps

/-- a step's numbers among those of all steps -/
theorem stvs_step : ∀ (l : List (List Int)), (∀ x, x ∈ l → x.length = 10) → ∀ (i k : Nat), i < l.length → k < 10 → (stvs l)[i * 10 + k]? = some (.int .i64 ((l.getD i []).getD k 0))
  | [], _, i, _, h, _ => absurd h (Nat.not_lt_zero _)
  | x :: r, hx, 0, k, _, hk => by
    have hl := hx x (List.mem_cons_self ..)
    have hs : stvs (x :: r) = x.map (Value.int .i64) ++ stvs r := by simp [stvs]
    rw [hs, List.getElem?_append_left (by simp; omega)]
    have hk' : k < x.length := by omega
    simp [hk']
  | x :: r, hx, i + 1, k, h, hk => by
    have hl := hx x (List.mem_cons_self ..)
    have hs : stvs (x :: r) = x.map (Value.int .i64) ++ stvs r := by simp [stvs]
    have ih := stvs_step r (fun y hy => hx y (List.mem_cons_of_mem _ hy)) i k (by simpa using h) hk
    rw [hs, List.getElem?_append_right (by simp; omega)]
    have e : (i + 1) * 10 + k - (x.map (Value.int .i64)).length = i * 10 + k := by simp; omega
    rw [e, ih]
    rfl
/-- what Run tells of a cell that a step shows -/
theorem once_told {p : Nat} {cs l' : List (Int × Int)} (hz : Zer cs) (hb : ∀ u, 0 ≤ finz cs u → 0 ≤ u ∧ u < (p : Int)) (hp : p ≤ 2147483647) (ha : AscC cs l') {x y : Int} (h : 0 ≤ finz cs x ∧ cvl cs x = y) : (x = 0 ∧ y = 0) ∨ (x ≠ 0 ∧ (∃ j, j < l'.length ∧ (cat l' j).1 = x) ∧ ∀ j, j < l'.length → (cat l' j).1 = x → (cat l' j).2 = y) := by
  by_cases h0 : x = 0
  · subst h0
    exact .inl ⟨rfl, h.2.symm.trans hz.2⟩
  · have hbx := hb x h.1
    have hm := (ha.2 x y).2 ⟨h0, ⟨by omega, by omega⟩, h.1, h.2⟩
    refine .inr ⟨h0, ?_, fun j hj hj2 => ?_⟩
    · obtain ⟨j, hj, he⟩ := List.getElem_of_mem hm
      exact ⟨j, hj, by simp [cat, hj, he]⟩
    · have hc : cat l' j = l'[j] := by simp [cat, hj]
      have hmj : ((cat l' j).1, (cat l' j).2) ∈ l' := by rw [hc]; exact List.getElem_mem hj
      have := (ha.2 _ _).1 hmj
      rw [hj2, h.2] at this
      exact this.2.2.2.symm

set_option maxRecDepth 100000 in
set_option maxHeartbeats 4000000 in
/-- where there is a field -/
theorem monce_yes (SO : SrtAs) (q : Nat) (size limit : Int) (aL : Option Addr) (cL : Nat) (L : List InsZ) (w : World) (h3 : 3 ≤ q) (h4 : q ≤ 2147483647) (hpr : Num.Prime q) (hn : L.length ≤ 281474976710656) (hl : LstI w.heap.size w aL cL L) (hIB : InsB L) :
    Calls Try.prog 3 #[.int .i64 q, .agg #[.int .i64 size, .slice aL L.length cL], .int .i64 limit] w fun e w' => e = .returned (.bool true) ∧ Below w.heap.size w w' := by
  obtain ⟨W0, hW0⟩ : ∃ W0, W0 = w.alloc (.cells #[.int .i64 size, .slice aL L.length cL] 24) := ⟨_, rfl⟩
  have hb0 : Below w.heap.size w W0 := by rw [hW0]; exact (Below.refl _ _).alloc (Nat.le_refl _) _
  have HC0 : Hid (W0.heap[w.heap.size]? = some (.cells #[.int .i64 size, .slice aL L.length cL] 24 (0, 0))) := by unfold Hid; rw [hW0]; exact heap_alloc_new w _
  have HB0 := hid hb0
  have HLV := hid (lives6_any SO W0)
  have HPR := hid hpr
  have HRW := hid (fun (lim : Int) (b : Nat) (W : World) (hb : Below w.heap.size w W) (hc : W.cell? ⟨b, 0, none⟩ = some (.int .i64 q)) => prun_any SO q b size lim aL cL L W h3 h4 hpr hc hn ((hl.below hb).mono hb.size) hIB)
  have HWW := hid (fun (lim : Int) (b : Nat) (W : World) (hb : Below w.heap.size w W) (hc : W.cell? ⟨b, 0, none⟩ = some (.int .i64 q)) => pwalk_any q b size lim aL cL L W h3 h4 hpr hc hn ((hl.below hb).mono hb.size) hIB)
  obtain ⟨nL, hnL⟩ : ∃ nL, nL = L.length := ⟨_, rfl⟩
  have HNL := hid hnL
  rw [← hnL] at HC0 hW0 HRW HWW ⊢
  clear hb0 hl hIB hpr hnL hn SO
  go_enter Try.func3, Try.ntmps3
  go_wp2_with fail
  rw [← hW0]
  refine HLV.out.mono ?_
  rintro e w1 ⟨rfl, hb1⟩
  have HB1 := hid (HB0.out.trans (hb1.mono HB0.out.size))
  have HC1 := hid ((hb1.block _ (Array.getElem?_eq_some_iff.1 HC0.out).1).trans HC0.out)
  have HPL := hid (plain6_yes q w1 h3 h4 HPR.out)
  clear hb1 HB0 HC0 HLV hW0
  go_wp2_with fail
  refine HPL.out.mono ?_
  rintro e w2 ⟨rfl, hc2, hb2⟩
  have HB2 := hid (HB1.out.trans (hb2.mono HB1.out.size))
  have HC2 := hid ((hb2.block _ (Array.getElem?_eq_some_iff.1 HC1.out).1).trans HC1.out)
  have HK2 := hid hc2
  have k0 : w2.cell? ⟨w.heap.size, 0, none⟩ = some (.int .i64 size) := by simp [World.cell?, HC2.out]
  have k1 : w2.cell? ⟨w.heap.size, 1, none⟩ = some (.slice aL nL cL) := by simp [World.cell?, HC2.out]
  clear hb2 HB1 HC1 HPL hc2
  go_wp2_with fail
  refine (HRW.out limit w1.heap.size w2 HB2.out HK2.out).mono ?_
  intro e w3 hr3
  have hb3 := hr3.1
  have HB3 := hid (HB2.out.trans (hb3.mono HB2.out.size))
  have HC3 := hid ((hb3.block _ (Array.getElem?_eq_some_iff.1 HC2.out).1).trans HC2.out)
  have HK3 := hid ((hb3.cell (p := ⟨w1.heap.size, 0, none⟩) (World.block_lt_of_cell? _ _ HK2.out)).trans HK2.out)
  have HX3 := hid hr3.cases
  have hlt3 : w.heap.size < w3.heap.size := (Array.getElem?_eq_some_iff.1 HC3.out).1
  have j0 : w3.cell? ⟨w.heap.size, 0, none⟩ = some (.int .i64 size) := by simp [World.cell?, HC3.out]
  have j1 : w3.cell? ⟨w.heap.size, 1, none⟩ = some (.slice aL nL cL) := by simp [World.cell?, HC3.out]
  clear hr3 hb3 k0 k1 HB2 HC2 HK2 HRW
  rcases HX3.out with ⟨z, hz, rfl, hwhy⟩ | ⟨hf0, l, cs, a, c, l', hX, hl0, rfl, hcl, hasc⟩
  · have HWY := hid hwhy
    clear HX3 hwhy hz
    obtain ⟨W3, hW3⟩ : ∃ W3, W3 = w3.alloc (.cells #[.int .i64 0, .int .i64 0, .slice none 0 0] 30) := ⟨_, rfl⟩
    have hbb : Below w3.heap.size w3 W3 := by rw [hW3]; exact (Below.refl _ _).alloc (Nat.le_refl _) _
    have HB4 := hid (HB3.out.trans (hbb.mono HB3.out.size))
    have HK4 := hid ((hbb.cell (p := ⟨w1.heap.size, 0, none⟩) (World.block_lt_of_cell? _ _ HK3.out)).trans HK3.out)
    clear hbb HB3 HC3 HK3
    go_wp2_with fail
    rw [← hW3]
    clear hW3 j0 j1 hlt3
    refine (HWW.out limit w1.heap.size W3 HB4.out HK4.out).mono ?_
    intro e w4 hr4
    have HB5 := hid (HB4.out.trans (hr4.1.mono HB4.out.size))
    have h5 : ∃ z2, e = .returned (.tuple #[.slice none 0 0, .iface 54 (.int .i64 z2)]) := by
      rcases hr4.cases with ⟨z2, _, he, _⟩ | ⟨h0, l, cs, _, _, hX, _⟩
      · exact ⟨z2, he⟩
      · rcases HWY.out with ⟨h6, _⟩ | ⟨_, h6⟩
        · exact absurd h0 h6
        · rw [hX] at h6
          cases h6
    obtain ⟨z2, rfl⟩ := h5
    clear hr4 HB4 HK4 HWW HWY
    go_wp2_with fail
    go_ret
    exact ⟨rfl, HB5.out⟩
  · have HF0 := hid hf0
    have HLIM : Hid (((l.length : Nat) : Int) ≤ limit + 1 ∧ 0 ≤ limit ∧ limit ≤ 16384) := by
      have hz0 := hf0
      have h1 := (mgo_len _ _ _ _ _ _ _ _ hX).2
      unfold fz6 at hz0
      split at hz0
      · omega
      · split at hz0
        · omega
        · simp at h1
          exact ⟨by omega, by omega, by omega⟩
    obtain ⟨hO1, hO2, hO3⟩ := mwalk_once h3 hX
    have HTO : Hid (∀ i j, i < l.length → j < 3 → ∃ x y, (stvs l)[i * 10 + (4 + j)]? = some (.int .i64 x) ∧ (stvs l)[i * 10 + (7 + j)]? = some (.int .i64 y) ∧ ((x = 0 ∧ y = 0) ∨ (x ≠ 0 ∧ (∃ j, j < l'.length ∧ (cat l' j).1 = x) ∧ ∀ j, j < l'.length → (cat l' j).1 = x → (cat l' j).2 = y))) := fun i j hi hj => by
      have hm : l.getD i [] ∈ l := by simp [hi]
      exact ⟨_, _, stvs_step l (fun x hx => (hO3 x hx).2) i (4 + j) hi (by omega), stvs_step l (fun x hx => (hO3 x hx).2) i (7 + j) hi (by omega), once_told hO1 hO2 h4 hasc ((hO3 _ hm).1 j hj)⟩
    have HXX := hid hX
    have HCL := hid hcl
    have HL0 := hid hl0
    obtain ⟨o, ho⟩ := stvs_int l ((l.length - 1) * 10 + 7) (by
      have := stvs_step l (fun x hx => (hO3 x hx).2) (l.length - 1) 7 (by omega) (by omega)
      exact (List.getElem?_eq_some_iff.1 this).1)
    have hou : outv l = o := by unfold outv; rw [ho]
    have HO := hid ho
    rw [hou]
    obtain ⟨k, hk⟩ : ∃ k, l.length = k + 1 := ⟨l.length - 1, by omega⟩
    have hk' : l.length - 1 = k := by omega
    obtain ⟨n', hn'⟩ : ∃ n', n' = l'.length := ⟨_, rfl⟩
    have HKK := hid hk
    have HN' := hid hn'
    rw [hk', ← hn']
    rw [← hn'] at HCL
    rw [hk] at HLIM
    rw [hk'] at HO
    clear HX3 hf0 hX hcl hasc ho hou hk hk' hn' hl0 hO1 hO2 hO3
    obtain ⟨W3, hW3⟩ : ∃ W3, W3 = w3.alloc (.cells #[.int .i64 o, .int .i64 (k : Int), .slice a n' c] 30) := ⟨_, rfl⟩
    have hbb : Below w3.heap.size w3 W3 := by rw [hW3]; exact (Below.refl _ _).alloc (Nat.le_refl _) _
    have HA4 : Hid (W3.heap[w3.heap.size]? = some (.cells #[.int .i64 o, .int .i64 (k : Int), .slice a n' c] 30 (0, 0))) := by unfold Hid; rw [hW3]; exact heap_alloc_new w3 _
    have HB4 := hid (HB3.out.trans (hbb.mono HB3.out.size))
    have HCL4 := hid (HCL.out.belowM hbb)
    have HK4 := hid ((hbb.cell (p := ⟨w1.heap.size, 0, none⟩) (World.block_lt_of_cell? _ _ HK3.out)).trans HK3.out)
    clear hbb HB3 HC3 HK3 HCL
    go_wp2_with fail
    rw [← hW3]
    clear hW3 j0 j1 hlt3
    refine (HWW.out limit w1.heap.size W3 HB4.out HK4.out).mono ?_
    intro e w4 hr4
    have hb4 := hr4.1
    have HB5 := hid (HB4.out.trans (hb4.mono HB4.out.size))
    have HA5 := hid ((hb4.block _ (Array.getElem?_eq_some_iff.1 HA4.out).1).trans HA4.out)
    have HCL5 := hid (HCL4.out.belowM hb4)
    have h5 : ∃ a2 c2, e = .returned (.tuple #[.slice a2 (k + 1) c2, .nilIface]) ∧ StR W3.heap.size w4 (.slice a2 (k + 1) c2) l := by
      rcases hr4.cases with ⟨z2, _, he, h6⟩ | ⟨_, l2, cs2, a2, c2, h6, he, hs2⟩
      · rcases h6 with h7 | ⟨_, h7⟩
        · exact absurd HF0.out h7
        · rw [HXX.out] at h7
          cases h7
      · rw [HXX.out] at h6
        injection h6 with h6 h7
        subst h6
        rw [HKK.out] at he hs2
        exact ⟨a2, c2, he, hs2⟩
    obtain ⟨a2, c2, rfl, hs2⟩ := h5
    have hs2' := hs2
    rw [← HKK.out] at hs2'
    obtain ⟨g, cap, e1, _, hce⟩ := hs2'.cells HL0.out
    injection e1 with e1 _ e3
    subst e1 e3
    have ko := hce _ _ HO.out
    have HCE := hid hce
    clear hr4 hb4 HB4 HK4 HWW HA4 HCL4 hs2 hs2' hce HXX HF0
    have r0 : w4.cell? ⟨w3.heap.size, 0, none⟩ = some (.int .i64 o) := by simp [World.cell?, HA5.out]
    have r1 : w4.cell? ⟨w3.heap.size, 1, none⟩ = some (.int .i64 (k : Int)) := by simp [World.cell?, HA5.out]
    have r2 : w4.cell? ⟨w3.heap.size, 2, none⟩ = some (.slice a n' c) := by simp [World.cell?, HA5.out]
    obtain ⟨n, hn⟩ : ∃ n, n = k + 1 := ⟨_, rfl⟩
    obtain ⟨lm, hlm'⟩ : ∃ lm, lm = limit + 1 := ⟨_, rfl⟩
    have hlm := HLIM.out
    have ha1 : IntKind.i64.wrap ((k : Int) + 1) = (n : Int) := by rw [IntKind.wrap_i64]; omega
    have ha2 : IntKind.i64.wrap (limit + 1) = lm := by rw [IntKind.wrap_i64]; omega
    have ha3 : IntKind.i64.wrap ((n : Int) - 1) = (k : Int) := by rw [IntKind.wrap_i64]; omega
    have hb1 : ((n : Int) != (n : Int)) = false := by simp
    have hb2 : ¬ (lm < (n : Int)) := by omega
    have hb3 : (o != o) = false := by simp
    have hkl : (k : Int) < (n : Int) := by omega
    have HNK := hid hn
    rw [← hn]
    clear hlm hn hlm'
    go_wp2_with fail
    go_quiet (fail)
    go_wp2_with fail
    clear r0 r1 r2 ko ha1 ha2 ha3 hb1 hb2 hb3 hkl
    have HQ : Hid (Below w4.heap.size w4 (w4.drewN nq)) := belM w4 nq
    go_loopw [13] (fun iv wr => ∃ i : Nat, i ≤ n ∧ iv = .int .i64 (i : Int) ∧ Hid (Below w4.heap.size w4 wr)) (fun iv _ => n - (intOf iv).toNat)
    case atStart => exact ⟨0, Nat.zero_le _, rfl, HQ.out⟩
    case round =>
      obtain ⟨i, hi, rfl, HWr⟩ := hrel
      by_cases hlt : i < n
      · have hlt2 : (i : Int) < (n : Int) := by omega
        have his : IntKind.i64.wrap ((i : Int) + 1) = (i : Int) + 1 := by have := HLIM.out; have := HNK.out; rw [IntKind.wrap_i64]; omega
        go_wp2_with fail
        go_loopw [14] (fun jv wr => ∃ j : Nat, j ≤ 3 ∧ jv = .int .i64 (j : Int) ∧ Hid (Below w4.heap.size w4 wr)) (fun jv _ => 3 - (intOf jv).toNat)
        case atStart => exact ⟨0, Nat.zero_le _, rfl, HWr.out⟩
        case round =>
          obtain ⟨j, hj, rfl, HWj⟩ := hrel
          by_cases hjt : j < 3
          · have hjt2 : (j : Int) < 3 := by omega
            have hjs : IntKind.i64.wrap ((j : Int) + 1) = (j : Int) + 1 := by rw [IntKind.wrap_i64]; omega
            obtain ⟨x, y, hx, hy, hxy⟩ := HTO.out i j (by have := HNK.out; have := HKK.out; omega) hjt
            have px := (HWj.out.cell (p := ⟨g, i * 10 + (4 + j), none⟩) (World.block_lt_of_cell? _ _ (HCE.out _ _ hx))).trans (HCE.out _ _ hx)
            have py := (HWj.out.cell (p := ⟨g, i * 10 + (7 + j), none⟩) (World.block_lt_of_cell? _ _ (HCE.out _ _ hy))).trans (HCE.out _ _ hy)
            rw [← Nat.add_assoc] at px py
            have HAj := hid ((HWj.out.block _ (Array.getElem?_eq_some_iff.1 HA5.out).1).trans HA5.out)
            have HTL : Hid (∀ W, Below w4.heap.size w4 W → Calls Try.prog 8 #[.agg #[.int .i64 o, .int .i64 (k : Int), .slice a n' c], .int .i64 x] W fun e w' => e = .returned (.int .i64 y) ∧ Below W.heap.size W w') := fun W hb => by
              rcases hxy with ⟨rfl, rfl⟩ | ⟨g1, g2, g3⟩
              · exact told6_zero o (k : Int) _ W
              · exact told6_any o (k : Int) x y _ _ l' W (HCL5.out.belowM hb) g1 g2 g3
            have s0 : wr.cell? ⟨w3.heap.size, 0, none⟩ = some (.int .i64 o) := by simp [World.cell?, HAj.out]
            have s1 : wr.cell? ⟨w3.heap.size, 1, none⟩ = some (.int .i64 (k : Int)) := by simp [World.cell?, HAj.out]
            have s2 : wr.cell? ⟨w3.heap.size, 2, none⟩ = some (.slice a n' c) := by simp [World.cell?, HAj.out]
            clear hx hy hxy
            go_wp2_with fail
            refine wp_region_held_drew (S := (fun W => W.cell? ⟨w3.heap.size, 0, none⟩ = some (.int .i64 o) ∧ W.cell? ⟨w3.heap.size, 1, none⟩ = some (.int .i64 (k : Int)) ∧ W.cell? ⟨w3.heap.size, 2, none⟩ = some (.slice a n' c) ∧ W.cell? ⟨g, i * 10 + 4 + j, none⟩ = some (.int .i64 x))) (by kernel_rfl) ⟨s0, s1, s2, px⟩ (fun hHeld => ?_)
            refine wpAnyH_takeW (i := 0) (v := .agg #[.int .i64 o, .int .i64 (k : Int), .slice a n' c]) rfl (by kernel_rfl) (by kernel_rfl) (by kernel_rfl) (fun _ _ _ h => h) (by rfl) (fun W hC => by (obtain ⟨q0, q1, q2, q3⟩ := hC; go_simp)) hHeld ?_
            simp only [Act.put, List.setIfInBounds_toArray, List.set_cons_zero, List.set_cons_succ]
            refine wpAnyH_takeW (i := 1) (v := .slice (some ⟨g, 0, none⟩) n c2) rfl (by kernel_rfl) (by kernel_rfl) (by kernel_rfl) (fun _ _ _ h => h) (by rfl) (fun W hC => by go_simp) hHeld ?_
            simp only [Act.put, List.setIfInBounds_toArray, List.set_cons_zero, List.set_cons_succ]
            refine wpAnyH_takeW (i := 2) (v := .int .i64 (i : Int)) rfl (by kernel_rfl) (by kernel_rfl) (by kernel_rfl) (fun _ _ _ h => h) (by rfl) (fun W hC => by go_simp) hHeld ?_
            simp only [Act.put, List.setIfInBounds_toArray, List.set_cons_zero, List.set_cons_succ]
            refine wpAnyH_takeW (i := 3) (v := .int .i64 (j : Int)) rfl (by kernel_rfl) (by kernel_rfl) (by kernel_rfl) (fun _ _ _ h => h) (by rfl) (fun W hC => by go_simp) hHeld ?_
            simp only [Act.put, List.setIfInBounds_toArray, List.set_cons_zero, List.set_cons_succ]
            refine wpAnyH_takeW (i := 4) (v := .pointer (some ⟨g, i * 10, none⟩)) rfl (by kernel_rfl) (by kernel_rfl) (by kernel_rfl) (fun _ _ _ h => h) (by rfl) (fun W hC => by go_simp) hHeld ?_
            simp only [Act.put, List.setIfInBounds_toArray, List.set_cons_zero, List.set_cons_succ]
            refine wpAnyH_takeW (i := 5) (v := .pointer (some ⟨g, i * 10 + 4, none⟩)) rfl (by kernel_rfl) (by kernel_rfl) (by kernel_rfl) (fun _ _ _ h => h) (by rfl) (fun W hC => by go_simp) hHeld ?_
            simp only [Act.put, List.setIfInBounds_toArray, List.set_cons_zero, List.set_cons_succ]
            refine wpAnyH_takeW (i := 6) (v := .pointer (some ⟨g, i * 10 + 4 + j, none⟩)) rfl (by kernel_rfl) (by kernel_rfl) (by kernel_rfl) (fun _ _ _ h => h) (by rfl) (fun W hC => by go_simp) hHeld ?_
            simp only [Act.put, List.setIfInBounds_toArray, List.set_cons_zero, List.set_cons_succ]
            refine wpAnyH_takeW (i := 7) (v := .int .i64 x) rfl (by kernel_rfl) (by kernel_rfl) (by kernel_rfl) (fun _ _ _ h => h) (by rfl) (fun W hC => by (obtain ⟨q0, q1, q2, q3⟩ := hC; go_simp)) hHeld ?_
            simp only [Act.put, List.setIfInBounds_toArray, List.set_cons_zero, List.set_cons_succ]
            refine wpAnyH_ready (rs := [8]) (by kernel_rfl) (by simp) ?_
            refine AllReadyH.consW rfl (fun K hK => ?_) AllReadyH.nil
            go_simp
            refine (HTL.out wr.drew HWj.out.drew).mono ?_
            rintro e w5 ⟨rfl, hb5⟩
            have hb15 : Below wr.heap.size wr w5 := ⟨hb5.os, hb5.tape, hb5.output, hb5.size, hb5.block⟩
            have t0 := (hb15.cell (p := ⟨w3.heap.size, 0, none⟩) (World.block_lt_of_cell? _ _ s0)).trans s0
            have t1 := (hb15.cell (p := ⟨w3.heap.size, 1, none⟩) (World.block_lt_of_cell? _ _ s1)).trans s1
            have t2 := (hb15.cell (p := ⟨w3.heap.size, 2, none⟩) (World.block_lt_of_cell? _ _ s2)).trans s2
            have t3 := (hb15.cell (p := ⟨g, i * 10 + 4 + j, none⟩) (World.block_lt_of_cell? _ _ px)).trans px
            have py5 := (hb15.cell (p := ⟨g, i * 10 + 7 + j, none⟩) (World.block_lt_of_cell? _ _ py)).trans py
            have HN5 := hid (HWj.out.trans (hb15.mono HWj.out.size))
            refine hK.out _ _ ⟨t0, t1, t2, t3⟩ (fun hHeld => ?_)
            clear hK K hb5 hb15 HTL s0 s1 s2 px py HAj
            refine wpAnyH_takeW (i := 9) (v := .int .i64 y) rfl (by kernel_rfl) (by kernel_rfl) (by kernel_rfl) (fun _ _ _ h => h) (by rfl) (fun W hC => by go_simp) hHeld ?_
            simp only [Act.put, List.setIfInBounds_toArray, List.set_cons_zero, List.set_cons_succ]
            refine wpAnyH_done (by kernel_rfl) ?_ _
            clear hHeld t0 t1 t2 t3
            have hyy : (y != y) = false := by simp
            go_wp2_with fail
            go_roundw
            case rel => exact ⟨j + 1, by omega, by go_num, HN5.out⟩
            case measure => simp [intOf]; omega
          · obtain rfl : j = 3 := by omega
            go_wp2_with fail
            go_roundw
            case rel => exact ⟨i + 1, by omega, by go_num, HWj.out⟩
            case measure => simp [intOf]; omega
      · obtain rfl : i = n := by omega
        have hlt2 : ¬ (i : Int) < (i : Int) := by omega
        go_wp2_with fail
        go_ret
        exact ⟨rfl, HB5.out.trans (HWr.out.mono HB5.out.size)⟩

set_option maxRecDepth 100000 in
theorem monce_walk (p size limit : Int) (aL : Option Addr) (cL : Nat) (L : List InsZ) (w : World) (hp1 : -9223372036854775808 ≤ p) (hp2 : p ≤ 9223372036854775807) (hn : L.length ≤ 281474976710656) (hl : LstI w.heap.size w aL cL L) (hIB : InsB L) :
    Calls Try.prog 3 #[.int .i64 p, .agg #[.int .i64 size, .slice aL L.length cL], .int .i64 limit] w fun e w' => e = .returned (.bool true) ∧ Below w.heap.size w w' := by
  by_cases hok : okPrime p
  · obtain ⟨q, rfl⟩ := Int.eq_ofNat_of_zero_le (show 0 ≤ p by have := hok.1; omega)
    obtain ⟨h3, h4, hpr⟩ := hok
    rw [Int.toNat_natCast] at hpr
    exact monce_yes srtAs q size limit aL cL L w (by omega) (by omega) hpr hn hl hIB
  · obtain ⟨W0, hW0⟩ : ∃ W0, W0 = w.alloc (.cells #[.int .i64 size, .slice aL L.length cL] 24) := ⟨_, rfl⟩
    have hb0 : Below w.heap.size w W0 := by rw [hW0]; exact (Below.refl _ _).alloc (Nat.le_refl _) _
    have HLV := hid (lives6_any srtAs W0)
    have HPN := hid (fun W => plain6_no p W hok hp1 hp2)
    have HB0 := hid hb0
    obtain ⟨nL, hnL⟩ : ∃ nL, nL = L.length := ⟨_, rfl⟩
    rw [← hnL] at hW0 ⊢
    clear hb0 hn hl hIB hnL hok hp1 hp2
    go_enter Try.func3, Try.ntmps3
    go_wp2_with fail
    rw [← hW0]
    refine HLV.out.mono ?_
    rintro e w1 ⟨rfl, hb1⟩
    have HB1 := hid (HB0.out.trans (hb1.mono HB0.out.size))
    clear hb1 HLV HB0 hW0
    go_wp2_with fail
    refine (HPN.out w1).mono ?_
    rintro e w2 ⟨rfl, rfl⟩
    go_wp2_with fail
    go_ret
    exact ⟨rfl, HB1.out⟩

end Go.Proofs.Ytgcjpddpolaofai
