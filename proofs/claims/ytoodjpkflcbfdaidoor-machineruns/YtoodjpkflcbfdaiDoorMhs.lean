/- Package machine: ascending, what is collected. Package machine: ascending. MachineWalks: the walk. Package machine: Run. Runs, plainly: a greater limit; one ascending list. attestlaw6: rans, plain. attestlaw6: plain, lives. slices.SortFunc at cells: laid for this program. Package machine: slices.SortFunc at cells. Package machine: slices.SortFunc at cells, whole. Runs, plainly: what is told is told for good. attestref6.Run, plainly: the least cell above a number, again and again. attestref6.Run. attestlaw6: copied, alike. attestlaw6.copied; what both runs give. MachineRuns: the walk. MachineRuns: the walk, with the sort laid. -/
import Derived.Test.YtoodjpkflcbfdaiDoorMhk
import Derived.Maps.RangeWalk
import Derived.Test.YtoodjpkflcbfdaiDoorFld
import Derived.Shelf.SlLaysF0
import Derived.Test.YtoodjpkflcbfdaiDoorProg
import Derived.Shelf.SlSortCmp.WholeK
import Derived.Lib.Small
import Derived.Shelf.SlSortCmp.NoneTotal
import Derived.Test.YtoodjpkflcbfdaiDoorHeldS
import Derived.Test.YtoodjpkflcbfdaiDoorMacJ
import Derived.Laws.AppendOwnNone
namespace Go.Proofs.YtoodjpkflcbfdaiDoor
open Go.RowKit Go.Maps

/-- append(l, c): a cell more -/
theorem wpList_cel {ops : Array Oper} {rest : List Oper} {o : Oper} {act : Act} {Q : Exit → Act → World → Prop} (W : World) (hgd : o.guard = none) (s x : Operand)
    (ho : o.op = .call { callee := .builtin .append, args := #[s, x], argTypes := #[29, 29] }) (v : Value) (base : Nat) (l : List (Int × Int)) (z0 z1 : Int)
    (hown : CelR base W v l) (hs : act.eval s = v) (hx : act.eval x = .slice (some ⟨W.heap.size, 0, none⟩) 1 1) (hlen : l.length ≤ 4000000) (hbase : base ≤ W.heap.size)
    (h : ∀ v' w2, CelR base w2 v' (l ++ [(z0, z1)]) → Below base W w2 → W.grownBy w2 v.ownBlock → wpList Tryd.prog ops Q rest (act.put o.dst v') w2) :
    wpList Tryd.prog ops Q (o :: rest) act (W.alloc (.cells #[.int .i64 z0, .int .i64 z1] 67)) := by
  obtain ⟨cs, hcs⟩ : ∃ cs, cs = #[Value.int .i64 z0, .int .i64 z1] := ⟨_, rfl⟩
  rw [← hcs]
  have hbw : Below W.heap.size W (W.alloc (.cells cs 67)) := (Below.refl _ _).alloc (Nat.le_refl _) _
  obtain ⟨i0, hi, hz0, hz1, hz2⟩ := info_parts (show (Tryd.prog.info? 67).map (fun i => (i.zero, i.size, i.bytes)) = some (some (.agg #[.int .i64 0, .int .i64 0]), 2, 16) by kernel_rfl)
  have h1 : (W.alloc (.cells cs 67)).ownsRow base 67 2 v l.length (celv l) := World.ownsRow.alloc hown _
  refine wpList_append_own _ hgd s x 29 ho base 67 i0 _ 2 16 Tryd.underlying29 hi hz0 hz1 hz2 rfl (by decide) _ _ _ hs h1 ⟨W.heap.size, 0, none⟩ 1 1 cs.toList hx (by rw [hcs]; rfl) ?_ ?_ (by unfold maxLen; omega) (by omega) (by simp; omega) ?_
  · intro j t hj
    have hc : (W.alloc (.cells cs 67)).heap[W.heap.size]? = some (.cells cs 67 (0, 0)) := heap_alloc_new W _
    have hadd : (⟨W.heap.size, 0, none⟩ : Addr).add j = ⟨W.heap.size, j, none⟩ := by unfold Addr.add; split <;> simp_all
    rw [hadd]
    simp only [World.cell?, hc]
    simpa using hj
  · intro t ht
    rw [hcs] at ht
    have ht2 : t = .int .i64 z0 ∨ t = .int .i64 z1 := by simpa using ht
    rcases ht2 with rfl | rfl <;> rfl
  · intro v' w2 hown2 hgrow _
    have hB0 : Below base (W.alloc (.cells cs 67)) w2 := (Below.refl base _).grown hgrow (by simp; omega) (fun k hk => (h1.lt k hk).1)
    refine h v' w2 ?_ ((hbw.mono hbase).trans hB0) ⟨hgrow.os, hgrow.tape, hgrow.output, by have := hgrow.size; simp at this; omega, fun k hk hne => (hgrow.block k (by simp; omega) hne).trans (hbw.block k hk)⟩
    unfold CelR
    rw [celv_app, List.length_append]
    rw [hcs] at hown2
    simpa [celv] using hown2

theorem same_int (a b : Int) : (Lit.int .i64 a).sameKey (Lit.int .i64 b) = decide (a = b) := by
  by_cases h : a = b
  · subst h
    simp [Lit.sameKey]
  · rw [sameKey_ne (by intro e; injection e with _ e; exact h e), decide_eq_false h]
/-- what is collected -/
structure AsI (B r n : Nat) (D : DataW Unit) (left : Lit → Bool) (cnt : Nat) (l : List (Int × Int)) (v : Value) (w W : World) : Prop where
  rg : W.ranges Tryd.prog 3 (plainElem Tryd.prog 3) B r n D left cnt
  own : CelR w.heap.size W v l
  mem : ∀ x y, (x, y) ∈ l ↔ (x ≠ 0 ∧ I64 x ∧ Maps.has D (.int .i64 x) = true ∧ left (.int .i64 x) = false ∧ D.atKey (.int .i64 x) (.lit (.int .i64 0)) = .lit (.int .i64 y))
  nd : (l.map Prod.fst).Nodup
  bel : Below w.heap.size w W
  len : l.length + cnt ≤ n
theorem mem_step {D : DataW Unit} {left : Lit → Bool} {l : List (Int × Int)} {x c : Int} (hx : x ≠ 0) (h64 : I64 x) (hl : left (.int .i64 x) = true) (hat : ∀ zd, D.atKey (.int .i64 x) zd = .lit (.int .i64 c))
    (h : ∀ x y, (x, y) ∈ l ↔ (x ≠ 0 ∧ I64 x ∧ Maps.has D (.int .i64 x) = true ∧ left (.int .i64 x) = false ∧ D.atKey (.int .i64 x) (.lit (.int .i64 0)) = .lit (.int .i64 y))) :
    ∀ x' y, (x', y) ∈ l ++ [(x, c)] ↔ (x' ≠ 0 ∧ I64 x' ∧ Maps.has D (.int .i64 x') = true ∧ (fun z : Lit => left z && !z.sameKey (.int .i64 x)) (.int .i64 x') = false ∧ D.atKey (.int .i64 x') (.lit (.int .i64 0)) = .lit (.int .i64 y)) := fun x' y => by
  rw [List.mem_append, h x' y]
  simp only [same_int]
  by_cases e : x' = x
  · subst e
    simp only [hl, List.mem_singleton, Prod.mk.injEq, true_and, decide_true, Bool.not_true, Bool.and_false]
    constructor
    · rintro (⟨_, _, _, h4, _⟩ | rfl)
      · cases h4
      · exact ⟨hx, h64, has_true_of_atKey hat, hat _⟩
    · rintro ⟨_, _, _, h5⟩
      rw [hat] at h5
      injection h5 with h5
      injection h5 with _ h5
      exact .inr h5.symm
  · simp [e]
theorem mem_skip {D : DataW Unit} {left : Lit → Bool} {l : List (Int × Int)}
    (h : ∀ x y, (x, y) ∈ l ↔ (x ≠ 0 ∧ I64 x ∧ Maps.has D (.int .i64 x) = true ∧ left (.int .i64 x) = false ∧ D.atKey (.int .i64 x) (.lit (.int .i64 0)) = .lit (.int .i64 y))) :
    ∀ x' y, (x', y) ∈ l ↔ (x' ≠ 0 ∧ I64 x' ∧ Maps.has D (.int .i64 x') = true ∧ (fun z : Lit => left z && !z.sameKey (.int .i64 0)) (.int .i64 x') = false ∧ D.atKey (.int .i64 x') (.lit (.int .i64 0)) = .lit (.int .i64 y)) := fun x' y => by
  rw [h x' y]
  simp only [same_int]
  by_cases e : x' = 0
  · simp [e]
  · simp [e]

end Go.Proofs.YtoodjpkflcbfdaiDoor

namespace Go.Proofs.YtoodjpkflcbfdaiDoor
open Go.RowKit Go.Maps

theorem wf_boundsM {x : Int} (h : (Lit.int .i64 x).wf = true) : I64 x := bounds_i64 h
/-- what slices.SortFunc must do -/
def SrtAs : Prop := ∀ (base : Nat) (v : Value) (l : List (Int × Int)) (W : World), CelR base W v l → l.length ≤ 4000000 → base ≤ W.heap.size →
  Calls Tryd.prog 39 #[v, .func (.func 40) #[] #[]] W fun e w' => e = .returned (.tuple #[]) ∧ ∃ l' : List (Int × Int), l'.Perm l ∧ l'.Pairwise (fun a b => a.1 ≤ b.1) ∧ CelR base w' v l' ∧ Below base W w'
/-- what is told, ascending, but for cell 0 -/
def AscC (cs l : List (Int × Int)) : Prop := l.Pairwise (fun a b => a.1 < b.1) ∧ ∀ x y, (x, y) ∈ l ↔ (x ≠ 0 ∧ I64 x ∧ 0 ≤ finz cs x ∧ cvl cs x = y)

theorem own_ne_iter {base : Nat} {W : World} {v : Value} {l : List (Int × Int)} {B r n : Nat} {D : DataW Unit} {left : Lit → Bool} {cnt : Nat} (h : CelR base W v l) (hr : W.ranges Tryd.prog 3 (plainElem Tryd.prog 3) B r n D left cnt) : some B ≠ v.ownBlock ∧ some r ≠ v.ownBlock := by
  obtain ⟨es, cl, si, se, c0, h1, _, _, _, h2, _⟩ := hr
  rcases h.2 with ⟨rfl, _⟩ | ⟨g, cap, cur, rfl, _, hg, _⟩
  · exact ⟨(by intro e; cases e), (by intro e; cases e)⟩
  · constructor
    · intro e
      have e' : some B = some g := e
      injection e' with e'
      subst e'
      rw [hg] at h1
      injection h1 with h1
      cases h1
    · intro e
      have e' : some r = some g := e
      injection e' with e'
      subst e'
      rw [hg] at h2
      injection h2 with h2
      cases h2

set_option maxRecDepth 100000 in
set_option maxHeartbeats 2000000 in
theorem pasc_any (SO : SrtAs) (B n : Nat) (cs : List (Int × Int)) (w : World) (hM : MapAt w B n cs) (hn : n ≤ 4000000) :
    Calls Tryd.prog 24 #[.map (some B)] w fun e w' => ∃ v l, e = .returned v ∧ CelR w.heap.size w' v l ∧ AscC cs l ∧ Below w.heap.size w w' := by
  obtain ⟨D, hD, hC⟩ := hM
  have HSO := hid SO
  have HCM := hid hC
  have HDD := hid hD
  have HSZ := hid hD.size_le
  clear SO hC
  go_enter Tryd.func24, Tryd.ntmps24
  go_wp2_with (first | (at_range; refine wpList_range_own _ rfl _ 62 rfl 3 3 keyI Tryd.underlying62 _ B n D rfl hD ?_; intro w0 hrg0 hg0 hs0))
  go_frame
  have HI0 : Hid (AsI B w.heap.size n D (Maps.has D) (Maps.size D) [] (.slice none 0 0) w w0) := ⟨hrg0, World.ownsRow_nil _ _ _ _, fun x y => ⟨fun h => (by cases h), fun h => by rw [h.2.2.1] at h; exact absurd h.2.2.2.1 (by simp)⟩, List.nodup_nil, ⟨hg0.os, hg0.tape, hg0.output, hg0.size, fun k hk => hg0.block k hk (by simp)⟩, by simpa using HSZ.out⟩
  clear hrg0 hg0 hs0 hD
  go_loopw [3] (fun lv wr => ∃ (left : Lit → Bool) (cnt : Nat) (l : List (Int × Int)), Hid (AsI B w.heap.size n D left cnt l lv w wr)) (fun _ wr => wr.rangeLeft B w.heap.size)
  case atStart => exact ⟨_, _, _, HI0.out⟩
  case round =>
    obtain ⟨left, cnt, l, HI⟩ := hrel
    have hrg := HI.out.rg
    go_wp2_with (at_next; refine wpList_next_ranges_ii _ rfl _ rfl 3 3 .i64 .i64 keyI Tryd.underlying3 Tryd.underlying3 B w.heap.size n D left cnt rfl hrg ?_ ?_)
    · intro _ hl0
      have HST := hid (HSO.out w.heap.size u3 l wr HI.out.own (by have := HI.out.len; omega) HI.out.bel.size)
      have HL0 := hid hl0
      clear hl0 hrg HSO HI0
      go_wp2_with fail
      refine HST.out.mono ?_
      rintro e w2 ⟨rfl, l', hpm, hsr, hcl, hb2⟩
      have HEND : Hid (∃ v l, Ending.returned u3 = .returned v ∧ CelR w.heap.size w2 v l ∧ AscC cs l ∧ Below w.heap.size w w2) := by
        have hmem : ∀ x y, (x, y) ∈ l' ↔ (x ≠ 0 ∧ I64 x ∧ 0 ≤ finz cs x ∧ cvl cs x = y) := fun x y => by
          rw [hpm.mem_iff, HI.out.mem x y]
          constructor
          · rintro ⟨e1, e2, e3, _, e5⟩
            have hc := HCM.out x e2
            rw [e3] at hc
            rw [hc.2] at e5
            injection e5 with e5
            injection e5 with _ e5
            exact ⟨e1, e2, of_decide_eq_true hc.1.symm, e5⟩
          · rintro ⟨e1, e2, e3, e4⟩
            have hc := HCM.out x e2
            exact ⟨e1, e2, by rw [hc.1]; exact decide_eq_true e3, HL0.out _, by rw [hc.2, e4]⟩
        refine ⟨u3, l', rfl, hcl, ⟨?_, hmem⟩, HI.out.bel.trans hb2⟩
        have hnd : (l'.map Prod.fst).Nodup := (hpm.map Prod.fst).nodup_iff.2 HI.out.nd
        have hnd2 : l'.Pairwise (fun a b => a.1 ≠ b.1) := by
          unfold List.Nodup at hnd
          exact List.pairwise_map.1 hnd
        exact (hsr.and hnd2).imp (fun h => by have h1 := h.1; have h2 := h.2; omega)
      clear hpm hsr hcl hb2 HST HI HCM HL0
      go_wp2_with fail
      go_ret
      exact HEND.out
    · intro x c w1 cnt1 hwx hwc hlx hat hrg1 hlt hg1 hs1 hen
      have h64 : I64 x := wf_boundsM hwx
      have HO1 : Hid (CelR w.heap.size w1 u3 l) := World.ownsRow.kept HI.out.own hg1 (by
        have h2 := (own_ne_iter HI.out.own hrg).2
        cases hv : u3.ownBlock with
        | none => exact .inl rfl
        | some k => exact .inr (by rw [← hv]; exact Ne.symm h2))
      have HB1 : Hid (Below w.heap.size w w1) := HI.out.bel.trans ⟨hg1.os, hg1.tape, hg1.output, hg1.size, fun k hk => hg1.block k (Nat.lt_of_lt_of_le hk HI.out.bel.size) (by intro e; injection e with e; omega)⟩
      have HR1 := hid hrg1
      have HRO := hid hrg
      have HLT := hid hlt
      by_cases h0 : x = 0
      · subst h0
        have HN : Hid (AsI B w.heap.size n D (fun z => left z && !z.sameKey (.int .i64 0)) cnt1 l u3 w w1) := ⟨hrg1, HO1.out, mem_skip HI.out.mem, HI.out.nd, HB1.out, by have := HI.out.len; omega⟩
        clear hrg hrg1 hg1 hs1 hlt hat hlx HSO
        go_wp2_with fail
        exact ⟨⟨_, _, _, HN.out⟩, by rw [HR1.out.left_eq, HRO.out.left_eq]; exact HLT.out⟩
      · have hx0 : (x != 0) = true := by simp [h0]
        have HMS := hid (mem_step h0 h64 hlx hat HI.out.mem)
        have HND : Hid (((l ++ [(x, c)]).map Prod.fst).Nodup) := by
          unfold Hid
          rw [List.map_append, List.nodup_append]
          refine ⟨HI.out.nd, by simp, fun a ha b hb => ?_⟩
          rintro rfl
          obtain ⟨⟨a', y⟩, h1, rfl⟩ := List.mem_map.1 ha
          have hb' : a' = x := by simpa using hb
          subst hb'
          have := ((HI.out.mem a' y).1 h1).2.2.2.1
          rw [hlx] at this
          cases this
        have HLN : Hid (l.length ≤ 4000000 ∧ l.length + 1 + cnt1 ≤ n) := ⟨by have := HI.out.len; omega, by have := HI.out.len; omega⟩
        clear hrg hrg1 hg1 hs1 hlt hat hlx HSO
        go_wp2_with (at_builtin; refine wpList_cel w1 rfl _ _ rfl _ w.heap.size l x c HO1.out rfl rfl HLN.out.1 HB1.out.size ?_)
        intro v' w2 hc2 hb2 hg2
        have hne := own_ne_iter HO1.out HR1.out
        have hr2 := HR1.out.kept hg2 hne.1 hne.2
        have HN : Hid (AsI B w.heap.size n D (fun z => left z && !z.sameKey (.int .i64 x)) cnt1 (l ++ [(x, c)]) v' w w2) := ⟨hr2, hc2, HMS.out, HND.out, HB1.out.trans hb2, by rw [List.length_append]; exact HLN.out.2⟩
        have HR2 := hid hr2
        clear hc2 hb2 hg2 hne hr2
        go_wp2_with fail
        exact ⟨⟨_, _, _, HN.out⟩, by rw [HR2.out.left_eq, HRO.out.left_eq]; exact HLT.out⟩

end Go.Proofs.YtoodjpkflcbfdaiDoor

namespace Go.Proofs.YtoodjpkflcbfdaiDoor
open Go.RowKit Go.Maps

theorem stvs_int : ∀ (l : List (List Int)) (m : Nat), m < (stvs l).length → ∃ x, (stvs l)[m]? = some (.int .i64 x) := fun l m hm => by
  have h : ∀ v, v ∈ stvs l → ∃ x, v = .int .i64 x := fun v hv => by
    unfold stvs at hv
    obtain ⟨y, _, h2⟩ := List.mem_flatMap.1 hv
    obtain ⟨x, _, rfl⟩ := List.mem_map.1 h2
    exact ⟨x, rfl⟩
  obtain ⟨x, hx⟩ := h _ (List.getElem_mem hm)
  exact ⟨x, by rw [List.getElem?_eq_getElem hm, hx]⟩
/-- a row of steps, cell by cell -/
theorem StR.cells {base : Nat} {w : World} {v : Value} {l : List (List Int)} (h : StR base w v l) (h0 : 0 < l.length) : ∃ g cap, v = .slice (some ⟨g, 0, none⟩) l.length cap ∧ l.length ≤ maxLen ∧ ∀ m x, (stvs l)[m]? = some (.int .i64 x) → w.cell? ⟨g, m, none⟩ = some (.int .i64 x) := by
  have h' := h
  rcases h.2 with ⟨_, hn⟩ | ⟨g, cap, cur, rfl, hb, hg, hn, hm, hs, ht⟩
  · omega
  · refine ⟨g, cap, rfl, by omega, fun m x hx => ?_⟩
    have := World.ownsRow.cells h' (g := g) rfl m _ hx
    have hadd : (⟨g, 0, none⟩ : Addr).add m = ⟨g, 0 + m, none⟩ := by unfold Addr.add; split <;> simp_all
    rw [hadd, Nat.zero_add] at this
    exact this
theorem StR.form {base : Nat} {w : World} {v : Value} {l : List (List Int)} (h : StR base w v l) : ∃ a c, v = .slice a l.length c := by
  rcases h.2 with ⟨rfl, h0⟩ | ⟨g, cap, cur, rfl, _⟩
  · exact ⟨none, 0, by rw [h0]⟩
  · exact ⟨_, _, rfl⟩

/-- what the program's Walk gives, the document's gives -/
theorem walks_both {p : Nat} {size limit : Int} {aL : Option Addr} {cL : Nat} {L : List InsZ} {w w1 w2 : World} {e : Ending} (h3 : 3 ≤ p) (h4 : p ≤ 2147483647) (hn : L.length ≤ 281474976710656) (hl : LstI w.heap.size w aL cL L) (hIB : InsB L) (h : WlR p size L limit w1 e w2) :
    ∃ v1 z l, e = .returned (.tuple #[v1, errV z]) ∧ StR w1.heap.size w2 v1 l ∧ ∀ W, Below w.heap.size w W → Calls Tryd.prog 15 #[.int .i64 p, .agg #[.int .i64 size, .slice aL L.length cL], .int .i64 limit] W fun e' W' => ∃ v2 x, e' = .returned (.tuple #[v2, x, .int .i64 z]) ∧ StR W.heap.size W' v2 l ∧ Below W.heap.size W W' := by
  obtain ⟨_, h2⟩ := h
  by_cases hz : fz6 (p : Int) size L.length limit ≠ 0
  · rw [if_pos hz] at h2
    refine ⟨_, _, [], h2, World.ownsRow_nil _ _ _ _, fun W hb => (rwalk_bad p size limit aL L.length cL W hn hz).mono ?_⟩
    rintro e' W' ⟨rfl, hb'⟩
    exact ⟨_, _, rfl, World.ownsRow_nil _ _ _ _, hb'⟩
  · rw [if_neg hz] at h2
    have hz0 : fz6 (p : Int) size L.length limit = 0 := Decidable.byContradiction hz
    have hfz : 0 ≤ size ∧ size ≤ 65536 ∧ 0 < L.length ∧ L.length ≤ 4096 ∧ L.length ≤ p ∧ 0 ≤ limit ∧ limit ≤ 16384 := by
      unfold fz6 at hz0
      split at hz0
      · omega
      · split at hz0
        · omega
        · refine ⟨by omega, by omega, by omega, by omega, by omega, by omega, by omega⟩
    obtain ⟨m, rfl⟩ := Int.eq_ofNat_of_zero_le hfz.2.2.2.2.2.1
    rw [Int.toNat_natCast] at h2
    have hR := fun (W : World) (hb : Below w.heap.size w W) => rwalk_any p m cL size aL L W h3 h4 hfz.1 hfz.2.1 hfz.2.2.1 hfz.2.2.2.1 hfz.2.2.2.2.1 (by omega) hIB ((hl.below hb).mono hb.size)
    cases hX : mwalk p size L m with
    | bad z =>
      rw [hX] at h2 hR
      refine ⟨_, z, [], h2, World.ownsRow_nil _ _ _ _, fun W hb => (hR W hb).mono ?_⟩
      rintro e' W' ⟨hb', he⟩
      exact ⟨_, _, he, World.ownsRow_nil _ _ _ _, hb'⟩
    | good l cs =>
      rw [hX] at h2 hR
      obtain ⟨v, h5, h6⟩ := h2
      refine ⟨v, 0, l, h5, h6, fun W hb => (hR W hb).mono ?_⟩
      rintro e' W' ⟨hb', v1, v2, he, hs, _⟩
      exact ⟨v1, v2, he, hs, hb'⟩
theorem error_same (z : Int) (w : World) (hL : Laid w) : Calls Tryd.prog 11 #[errV z, .int .i64 z] w fun e w' => e = .returned (.bool true) ∧ Below w.heap.size w w' := by
  by_cases hz : z = 0
  · subst hz
    refine (error_nil 0 w).mono ?_
    rintro e w' ⟨rfl, rfl⟩
    exact ⟨rfl, Below.refl _ _⟩
  · rw [errV_nz hz]
    refine (error_hit z z w hL).mono ?_
    rintro e w' ⟨rfl, hb⟩
    exact ⟨by simp, hb⟩

theorem eqI_runM (n : Nat) (a : Int) (w : World) : (Op.equalIn (n + 1) 3 (.int .i64 a) (.int .i64 a)).run Tryd.prog w = .ok true w := by
  simp [Op.equalIn, run_underlying Tryd.underlying3, Result.andThen]
theorem part_runM (cs : Array Value) (i : Nat) (v : Value) (h : cs[i]? = some v) (w : World) : (part 3 cs i).run Tryd.prog w = .ok v w := by
  simp [part, Tryd.isAgg3, h, Result.andThen]
theorem eq3_runM (n : Nat) (a0 a1 a2 : Int) (w : World) : (Op.equalIn (n + 1 + 1) 47 (.agg #[.int .i64 a0, .int .i64 a1, .int .i64 a2]) (.agg #[.int .i64 a0, .int .i64 a1, .int .i64 a2])).run Tryd.prog w = .ok true w := by
  have e : ∀ (x : Int), (Op.equalIn (n + 1) 3 (.int .i64 x) (.int .i64 x)).run Tryd.prog w = .ok true w := fun x => eqI_runM n x w
  unfold Op.equalIn
  simp only [Sem.run_bind, run_underlying Tryd.underlying47, Result.andThen_ok, Tryd.sizeOf3]
  have p0 : ∀ (x0 x1 x2 : Value), (part 3 #[x0, x1, x2] (0 * 1)).run Tryd.prog w = .ok x0 w := fun x0 x1 x2 => part_runM _ _ _ rfl w
  have p1 : ∀ (x0 x1 x2 : Value), (part 3 #[x0, x1, x2] (1 * 1)).run Tryd.prog w = .ok x1 w := fun x0 x1 x2 => part_runM _ _ _ rfl w
  have p2 : ∀ (x0 x1 x2 : Value), (part 3 #[x0, x1, x2] (2 * 1)).run Tryd.prog w = .ok x2 w := fun x0 x1 x2 => part_runM _ _ _ rfl w
  rw [Std.Legacy.Range.forIn_eq_forIn_range']
  show ((Sem.run Tryd.prog (forIn [0, 1, 2] _ _) w).andThen _) = _
  simp only [List.forIn_cons, List.forIn_nil, Sem.run_bind, p0, e, Result.andThen_ok]
  simp [p1, p2, e, Result.andThen]
theorem neq_step (y0 y1 y2 y3 y4 y5 y6 y7 y8 y9 : Int) (w : World) : (binOp BinOp.neq 49 (.agg #[.int .i64 y0, .int .i64 y1, .int .i64 y2, .int .i64 y3, .int .i64 y4, .int .i64 y5, .int .i64 y6, .int .i64 y7, .int .i64 y8, .int .i64 y9]) (.agg #[.int .i64 y0, .int .i64 y1, .int .i64 y2, .int .i64 y3, .int .i64 y4, .int .i64 y5, .int .i64 y6, .int .i64 y7, .int .i64 y8, .int .i64 y9])).run Tryd.prog w = .ok (.bool false) w := by
  have e3 : ∀ (x y z : Int), (Op.equalIn 9999 47 (.agg #[.int .i64 x, .int .i64 y, .int .i64 z]) (.agg #[.int .i64 x, .int .i64 y, .int .i64 z])).run Tryd.prog w = .ok true w := fun x y z => eq3_runM 9997 x y z w
  simp [go_sem, e3]

set_option maxRecDepth 100000 in
set_option maxHeartbeats 4000000 in
/-- where there is a field -/
theorem mwalks_yes (q : Nat) (size limit : Int) (aL : Option Addr) (cL : Nat) (L : List InsZ) (w : World) (hL : Laid w) (h3 : 3 ≤ q) (h4 : q ≤ 2147483647) (hpr : Num.Prime q) (hn : L.length ≤ 281474976710656) (hl : LstI w.heap.size w aL cL L) (hIB : InsB L) :
    Calls Tryd.prog 4 #[.int .i64 q, .agg #[.int .i64 size, .slice aL L.length cL], .int .i64 limit] w fun e w' => e = .returned (.bool true) ∧ Below w.heap.size w w' := by
  have hmx : Tryd.prog.follows .mixedOrders = true := by kernel_rfl
  obtain ⟨W0, hW0⟩ : ∃ W0, W0 = w.alloc (.cells #[.int .i64 size, .slice aL L.length cL] 24) := ⟨_, rfl⟩
  have hb0 : Below w.heap.size w W0 := by rw [hW0]; exact (Below.refl _ _).alloc (Nat.le_refl _) _
  have HC0 : Hid (W0.heap[w.heap.size]? = some (.cells #[.int .i64 size, .slice aL L.length cL] 24 (0, 0))) := by unfold Hid; rw [hW0]; exact heap_alloc_new w _
  have HB0 := hid hb0
  have HF := hid (field_yes q W0 h3 h4 hpr)
  have HL := hid hl
  have HLD := hid hL
  have HIB := hid hIB
  have HPR := hid hpr
  have HNE := hid hn
  obtain ⟨nL, hnL⟩ : ∃ nL, nL = L.length := ⟨_, rfl⟩
  have HNL := hid hnL
  rw [← hnL] at HC0 hW0 ⊢
  clear hb0 hl hL hIB hpr hnL hn
  go_enter Tryd.func4, Tryd.ntmps4
  go_wp2_with fail
  rw [← hW0]
  refine HF.out.mono ?_
  rintro e w1 ⟨rfl, hc1, hb1, hlt1⟩
  have HB1 := hid (HB0.out.trans (hb1.mono HB0.out.size))
  have HC1 := hid ((hb1.block _ (Array.getElem?_eq_some_iff.1 HC0.out).1).trans HC0.out)
  have k0 : w1.cell? ⟨w.heap.size, 0, none⟩ = some (.int .i64 size) := by simp [World.cell?, HC1.out]
  have k1 : w1.cell? ⟨w.heap.size, 1, none⟩ = some (.slice aL nL cL) := by simp [World.cell?, HC1.out]
  have HWK := hid (pwalk_any q W0.heap.size size limit aL cL L w1 h3 h4 HPR.out hc1 HNE.out ((HL.out.below HB1.out).mono HB1.out.size) HIB.out)
  rw [← HNL.out] at HWK
  clear hc1 hb1 hlt1 HB0 HC0 HF hW0
  go_wp2_with fail
  refine HWK.out.mono ?_
  rintro e w2 hr2
  have hb2 := hr2.1
  have HB2 := hid (HB1.out.trans (hb2.mono HB1.out.size))
  have HC2 := hid ((hb2.block _ (Array.getElem?_eq_some_iff.1 HC1.out).1).trans HC1.out)
  have c0 : w2.cell? ⟨w.heap.size, 0, none⟩ = some (.int .i64 size) := by simp [World.cell?, HC2.out]
  have c1 : w2.cell? ⟨w.heap.size, 1, none⟩ = some (.slice aL nL cL) := by simp [World.cell?, HC2.out]
  obtain ⟨v1, z, l, rfl, hs2, hRW⟩ := walks_both h3 h4 HNE.out HL.out HIB.out hr2
  have HRW := hid (hRW w2 HB2.out)
  rw [← HNL.out] at HRW
  obtain ⟨a1, d1, hv1⟩ := hs2.form
  have HS2 := hid hs2
  clear HWK k0 k1 hb2 HC1 HB1 hr2 hs2 hRW
  obtain ⟨n, hn⟩ : ∃ n, n = l.length := ⟨_, rfl⟩
  have HN := hid hn
  rw [← hn] at hv1
  subst hv1
  clear hn
  have HES := hid (fun W (h : Laid W) => error_same z W h)
  generalize errV z = ev at *
  go_wp2_with fail
  refine HRW.out.mono ?_
  rintro e w3 ⟨v2, x, rfl, hs3, hb3⟩
  have HB3 := hid (HB2.out.trans (hb3.mono HB2.out.size))
  have HER := hid (HES.out w3 (HLD.out.below HB3.out))
  obtain ⟨a2, d2, hv2⟩ := hs3.form
  rw [← HN.out] at hv2
  subst hv2
  have HS3 := hid hs3
  have HS23 : Hid (∀ m x, (stvs l)[m]? = some (.int .i64 x) → ∃ g, a1 = some ⟨g, 0, none⟩ ∧ w3.cell? ⟨g, m, none⟩ = some (.int .i64 x)) := fun m y hm => by
    have h0 : 0 < l.length := by
      cases l with
      | nil => simp [stvs] at hm
      | cons a b => simp
    obtain ⟨g, cap, e1, _, e2⟩ := HS2.out.cells h0
    injection e1 with e1 _ _
    have := e2 m y hm
    exact ⟨g, e1, (hb3.cell (p := ⟨g, m, none⟩) (World.block_lt_of_cell? _ _ this)).trans this⟩
  have HS33 : Hid (∀ m x, (stvs l)[m]? = some (.int .i64 x) → ∃ g, a2 = some ⟨g, 0, none⟩ ∧ w3.cell? ⟨g, m, none⟩ = some (.int .i64 x)) := fun m y hm => by
    have h0 : 0 < l.length := by
      cases l with
      | nil => simp [stvs] at hm
      | cons a b => simp
    obtain ⟨g, cap, e1, _, e2⟩ := HS3.out.cells h0
    injection e1 with e1 _ _
    exact ⟨g, e1, e2 m y hm⟩
  have HLM : Hid (n ≤ maxLen ∧ (stvs l).length = n * 10) := by
    refine ⟨?_, by rw [HN.out]; exact HS3.out.1⟩
    rcases HS3.out.2 with ⟨_, h0⟩ | ⟨g, cap, cur, _, _, _, hn, hm, _⟩
    · rw [HN.out, h0]; exact Nat.zero_le _
    · rw [HN.out]; omega
  clear HRW hs3 hb3 HES HS2 HS3 c0 c1 HC2 HB2
  go_wp2_with fail
  refine HER.out.mono ?_
  rintro e w4 ⟨rfl, hb4⟩
  have HB4 := hid (HB3.out.trans (hb4.mono HB3.out.size))
  have HE4 := hid hb4
  clear hb4 HER HB3
  have hnn : ((n : Int) != (n : Int)) = false := by simp
  go_wp2_with fail
  go_loopw [15] (fun u wr => ∃ (i m : Nat), i ≤ n ∧ u = .int .i64 (i : Int) ∧ Hid (wr = w4.drewN m)) (fun u _ => n - (intOf u).toNat)
  case atStart => exact ⟨0, 0, Nat.zero_le _, rfl, rfl⟩
  case round =>
    obtain ⟨i, m, hi, rfl, HWr⟩ := hrel
    by_cases hlt : i < n
    · have hlt2 : (i : Int) < (n : Int) := by omega
      have hmx2 := HLM.out.1
      have his : IntKind.i64.wrap ((i : Int) + 1) = (i : Int) + 1 := by rw [IntKind.wrap_i64]; unfold maxLen at hmx2; omega
      have HV : Hid (∀ j, j < 10 → ∃ y g1 g2, a1 = some ⟨g1, 0, none⟩ ∧ a2 = some ⟨g2, 0, none⟩ ∧ wr.cell? ⟨g1, i * 10 + j, none⟩ = some (.int .i64 y) ∧ wr.cell? ⟨g2, i * 10 + j, none⟩ = some (.int .i64 y)) := fun j hj => by
        obtain ⟨y, hy⟩ := stvs_int l (i * 10 + j) (by rw [HLM.out.2]; omega)
        obtain ⟨g1, e1, f1⟩ := HS23.out _ _ hy
        obtain ⟨g2, e2, f2⟩ := HS33.out _ _ hy
        have hbb : Below w3.heap.size w3 wr := by rw [HWr.out]; exact HE4.out.trans ((belM w4 m).mono HE4.out.size)
        exact ⟨y, g1, g2, e1, e2, (hbb.cell (p := ⟨g1, i * 10 + j, none⟩) (World.block_lt_of_cell? _ _ f1)).trans f1, (hbb.cell (p := ⟨g2, i * 10 + j, none⟩) (World.block_lt_of_cell? _ _ f2)).trans f2⟩
      obtain ⟨y0, g1, g2, rfl, rfl, p0, q0⟩ := HV.out 0 (by omega)
      obtain ⟨y1, _, _, e1, e2, p1, q1⟩ := HV.out 1 (by omega)
      cases e1; cases e2
      obtain ⟨y2, _, _, e1, e2, p2, q2⟩ := HV.out 2 (by omega)
      cases e1; cases e2
      obtain ⟨y3, _, _, e1, e2, p3, q3⟩ := HV.out 3 (by omega)
      cases e1; cases e2
      obtain ⟨y4, _, _, e1, e2, p4, q4⟩ := HV.out 4 (by omega)
      cases e1; cases e2
      obtain ⟨y5, _, _, e1, e2, p5, q5⟩ := HV.out 5 (by omega)
      cases e1; cases e2
      obtain ⟨y6, _, _, e1, e2, p6, q6⟩ := HV.out 6 (by omega)
      cases e1; cases e2
      obtain ⟨y7, _, _, e1, e2, p7, q7⟩ := HV.out 7 (by omega)
      cases e1; cases e2
      obtain ⟨y8, _, _, e1, e2, p8, q8⟩ := HV.out 8 (by omega)
      cases e1; cases e2
      obtain ⟨y9, _, _, e1, e2, p9, q9⟩ := HV.out 9 (by omega)
      cases e1; cases e2
      rw [Nat.add_zero] at p0 q0
      clear HV
      have hneq := neq_step y0 y1 y2 y3 y4 y5 y6 y7 y8 y9
      go_wp2_with fail
      go_quiet (fail)
      go_wp2_with fail
      go_roundw
      case rel => exact ⟨i + 1, m + nq, by omega, by go_num, by unfold Hid; rw [HWr.out]; exact World.drewN_drewN _ _ _⟩
      case measure => simp [intOf]; omega
    · obtain rfl : i = n := by omega
      have hlt2 : ¬ (i : Int) < (i : Int) := by omega
      go_wp2_with fail
      go_ret
      exact ⟨rfl, by rw [HWr.out]; exact HB4.out.trans ((belM w4 m).mono HB4.out.size)⟩

set_option maxRecDepth 100000 in
theorem mwalks_walk (p size limit : Int) (aL : Option Addr) (cL : Nat) (L : List InsZ) (w : World) (hL : Laid w) (hp1 : -9223372036854775808 ≤ p) (hp2 : p ≤ 9223372036854775807) (hn : L.length ≤ 281474976710656) (hl : LstI w.heap.size w aL cL L) (hIB : InsB L) :
    Calls Tryd.prog 4 #[.int .i64 p, .agg #[.int .i64 size, .slice aL L.length cL], .int .i64 limit] w fun e w' => e = .returned (.bool true) ∧ Below w.heap.size w w' := by
  by_cases hok : okPrime p
  · obtain ⟨q, rfl⟩ := Int.eq_ofNat_of_zero_le (show 0 ≤ p by have := hok.1; omega)
    obtain ⟨h3, h4, hpr⟩ := hok
    rw [Int.toNat_natCast] at hpr
    exact mwalks_yes q size limit aL cL L w hL (by omega) (by omega) hpr hn hl hIB
  · obtain ⟨W0, hW0⟩ : ∃ W0, W0 = w.alloc (.cells #[.int .i64 size, .slice aL L.length cL] 24) := ⟨_, rfl⟩
    have hb0 : Below w.heap.size w W0 := by rw [hW0]; exact (Below.refl _ _).alloc (Nat.le_refl _) _
    have HF := hid (field_no p W0 (hL.below hb0) hok hp1 hp2)
    have HB0 := hid hb0
    obtain ⟨nL, hnL⟩ : ∃ nL, nL = L.length := ⟨_, rfl⟩
    rw [← hnL] at hW0 ⊢
    clear hb0 hn hl hIB hL hnL
    go_enter Tryd.func4, Tryd.ntmps4
    go_wp2_with fail
    rw [← hW0]
    refine HF.out.mono ?_
    rintro e w1 ⟨rfl, hb1⟩
    have HB1 := hid (HB0.out.trans (hb1.mono HB0.out.size))
    clear hb1 HF HB0 hW0
    go_wp2_with fail
    go_ret
    exact ⟨rfl, HB1.out⟩

end Go.Proofs.YtoodjpkflcbfdaiDoor

namespace Go.Proofs.YtoodjpkflcbfdaiDoor
open Go.RowKit Go.Maps

theorem results_ctM {P : Program} {fn : Func} {p u : Tmp} {ty : TypeId} (h : fn.results = #[.cell p ty, .tmp u]) (tmps : Array Value) (w : World) (g : Nat) (tt : TypeId) (cs : Array Value) (fr : Nat × Nat) (d : TypeDesc)
    (hp : tmps.getD p undef = .pointer (some ⟨g, 0, none⟩)) (hg : w.heap[g]? = some (.cells cs tt fr))
    (hu : P.underlying ty = some d) (hd : (match d with | .struct _ | .array _ _ => true | _ => false) = true) (hi : (P.info? ty).map (·.size) = some cs.size) :
    (results fn tmps).run P w = .ok (.tuple #[.agg cs, tmps.getD u undef]) w := by
  have hp' : tmps[p]?.getD undef = .pointer (some ⟨g, 0, none⟩) := by simpa using hp
  simp [results, h, hp', asAddr, run_loadVar_row w g tt ty cs fr d hg hu hd hi]
theorem mgo_len (p : Nat) (L : List InsZ) (limit : Nat) : ∀ (f : Nat) (s : RM) (done l : List (List Int)) (cs : List (Int × Int)), mgo p L limit f s done = .good l cs → 0 < l.length ∧ l.length ≤ done.length + f
  | 0, _, _, _, _, h => by simp [mgo] at h
  | f + 1, s, done, l, cs, h => by
    rw [mgo] at h
    split at h
    · cases h
    · split at h
      · cases h
      · split at h
        · cases h
        · split at h
          · injection h with h1 _
            rw [← h1]
            simp
          · have := mgo_len p L limit f _ _ l cs h
            simp at this
            exact ⟨this.1, by omega⟩
theorem mgo_bad (p : Nat) (L : List InsZ) (limit : Nat) : ∀ (f : Nat) (s : RM) (done : List (List Int)) (z : Int), mgo p L limit f s done = .bad z → z ≠ 0
  | 0, _, _, _, h => by simp [mgo] at h; omega
  | f + 1, s, done, z, h => by
    rw [mgo] at h
    split at h
    · injection h with h; omega
    · split at h
      · injection h with h; omega
      · split at h
        · rename_i h1
          injection h with h
          rw [← h]
          exact h1
        · split at h
          · cases h
          · exact mgo_bad p L limit f _ _ z h
/-- what a run comes to: the first cell of its last step -/
def outv (l : List (List Int)) : Int := match (stvs l)[(l.length - 1) * 10 + 7]? with
  | some (.int _ x) => x
  | _ => 0
/-- what Run gives -/
def RuR (p : Nat) (size : Int) (L : List InsZ) (limit : Int) (w : World) (e : Ending) (w' : World) : Prop := Below w.heap.size w w' ∧
  if fz6 (p : Int) size L.length limit ≠ 0 then e = .returned (.tuple #[.agg #[.int .i64 0, .int .i64 0, .slice none 0 0], errV (fz6 (p : Int) size L.length limit)])
  else match mwalk p size L limit.toNat with
    | .bad z => e = .returned (.tuple #[.agg #[.int .i64 0, .int .i64 0, .slice none 0 0], errV z])
    | .good l cs => ∃ v l', e = .returned (.tuple #[.agg #[.int .i64 (outv l), .int .i64 ((l.length - 1 : Nat) : Int), v], .nilIface]) ∧ CelR w.heap.size w' v l' ∧ AscC cs l'

set_option maxRecDepth 100000 in
set_option maxHeartbeats 2000000 in
theorem prun_any (SO : SrtAs) (p b : Nat) (size limit : Int) (aL : Option Addr) (cL : Nat) (L : List InsZ) (w : World) (h3 : 3 ≤ p) (h4 : p ≤ 2147483647) (hpr : Num.Prime p) (hp : w.cell? ⟨b, 0, none⟩ = some (.int .i64 p)) (hn : L.length ≤ 281474976710656) (hL : LstI w.heap.size w aL cL L) (hIB : InsB L) :
    Calls Tryd.prog 9 #[.pointer (some ⟨b, 0, none⟩), .agg #[.int .i64 size, .slice aL L.length cL], .int .i64 limit] w (RuR p size L limit w) := by
  obtain ⟨V, hV⟩ : ∃ V, V = w.alloc (.cells #[.int .i64 size, .slice aL L.length cL] 24) := ⟨_, rfl⟩
  obtain ⟨W0, hW0⟩ : ∃ W0, W0 = V.alloc (.cells #[.int .i64 0, .int .i64 0, .slice none 0 0] 31) := ⟨_, rfl⟩
  have b1 : Below w.heap.size w V := by rw [hV]; exact (Below.refl _ _).alloc (Nat.le_refl _) _
  have hs : V.heap.size = w.heap.size + 1 := by rw [hV]; simp
  have b2 : Below V.heap.size V W0 := by rw [hW0]; exact (Below.refl _ _).alloc (Nat.le_refl _) _
  have hb0 := b1.trans (b2.mono b1.size)
  have hr0 : W0.heap[w.heap.size + 1]? = some (.cells #[.int .i64 0, .int .i64 0, .slice none 0 0] 31 (0, 0)) := by rw [hW0, ← hs]; exact heap_alloc_new V _
  have HWD := hid (pwalked_any p b size limit aL cL L W0 h3 h4 hpr ((hb0.cell (p := ⟨b, 0, none⟩) (World.block_lt_of_cell? _ _ hp)).trans hp) hn ((hL.below hb0).mono hb0.size) hIB)
  have HB0 := hid hb0
  have HR0 := hid hr0
  have HSO := hid SO
  obtain ⟨nL, hnL⟩ : ∃ nL, nL = L.length := ⟨_, rfl⟩
  rw [← hnL] at HWD hV ⊢
  rw [hV] at hW0
  clear b1 hs b2 hb0 hr0 hV hp hn hL hIB hpr SO h3 h4 hnL
  go_enter Tryd.func9, Tryd.ntmps9
  go_wp2_with fail
  rw [← hW0]
  clear hW0
  refine HWD.out.mono ?_
  rintro e w1 ⟨hb1, hr1⟩
  have HR1 := hid ((hb1.block _ (Array.getElem?_eq_some_iff.1 HR0.out).1).trans HR0.out)
  have HB1 := hid (HB0.out.trans (hb1.mono HB0.out.size))
  have d0 : w1.cell? ⟨w.heap.size + 1, 0, none⟩ = some (.int .i64 0) := by simp [World.cell?, HR1.out]
  have d1 : w1.cell? ⟨w.heap.size + 1, 1, none⟩ = some (.int .i64 0) := by simp [World.cell?, HR1.out]
  have d2 : w1.cell? ⟨w.heap.size + 1, 2, none⟩ = some (.slice none 0 0) := by simp [World.cell?, HR1.out]
  have df := (row3_of HR1.out).frozen
  have HCASE : Hid ((∃ z, z ≠ 0 ∧ e = .returned (.tuple #[.slice none 0 0, .map none, errV z]) ∧ ∀ w', Below w.heap.size w w' → RuR p size L limit w (.returned (.tuple #[.agg #[.int .i64 0, .int .i64 0, .slice none 0 0], errV z])) w') ∨ ∃ l cs v B, 0 < l.length ∧ l.length ≤ 16385 ∧ e = .returned (.tuple #[v, .map (some B), .nilIface]) ∧ StR W0.heap.size w1 v l ∧ MapAt w1 B (1 + 2 * l.length) cs ∧ ∀ w' v l', Below w.heap.size w w' → CelR w.heap.size w' v l' → AscC cs l' → RuR p size L limit w (.returned (.tuple #[.agg #[.int .i64 (outv l), .int .i64 ((l.length - 1 : Nat) : Int), v], .nilIface])) w') := by
    by_cases hz : fz6 (p : Int) size L.length limit ≠ 0
    · rw [if_pos hz] at hr1
      exact .inl ⟨_, hz, hr1, fun w' hb => ⟨hb, by rw [if_pos hz]⟩⟩
    · rw [if_neg hz] at hr1
      have hlm : 0 ≤ limit ∧ limit ≤ 16384 := by
        have hz0 : fz6 (p : Int) size L.length limit = 0 := Decidable.byContradiction hz
        unfold fz6 at hz0
        split at hz0
        · omega
        · split at hz0 <;> omega
      cases hX : mwalk p size L limit.toNat with
      | bad z =>
        rw [hX] at hr1
        exact .inl ⟨z, mgo_bad _ _ _ _ _ _ _ hX, hr1, fun w' hb => ⟨hb, by rw [if_neg hz, hX]⟩⟩
      | good l cs =>
        rw [hX] at hr1
        obtain ⟨v, B, h1, h2, h5⟩ := hr1
        have hln := mgo_len _ _ _ _ _ _ _ _ hX
        refine .inr ⟨l, cs, v, B, hln.1, by have := hln.2; simp at this; omega, h1, h2, h5, fun w' v' l' hb hc ha => ⟨hb, ?_⟩⟩
        rw [if_neg hz, hX]
        exact ⟨v', l', rfl, hc, ha⟩
  clear hr1 HWD HR0 HB0
  rcases HCASE.out with ⟨z, hz, rfl, hE⟩ | ⟨l, cs, v, B, hl0, hl1, rfl, hs1, hm1, hE⟩
  · rw [errV_nz hz] at hE ⊢
    have HP3 := hid (put3_heap HR1.out (.int .i64 0) (.int .i64 0) (.slice none 0 0))
    have HE := hid (hE _ (put3_below HB1.out (Nat.le_succ _) (g := w.heap.size + 1) (.int .i64 0) (.int .i64 0) (.slice none 0 0)))
    clear hE HCASE hz HSO hb1
    go_wp2_with fail
    (try simp only [Exit.inBlock, Exit.then])
    refine bodyPost_ret (results_ctM rfl _ _ (w.heap.size + 1) 31 #[.int .i64 0, .int .i64 0, .slice none 0 0] (0, 0) _ rfl HP3.out Tryd.underlying31 rfl (by kernel_rfl)) rfl ?_
    exact HE.out
  · obtain ⟨av, cv, rfl⟩ := hs1.form
    obtain ⟨g, cap, e1, _, hcl⟩ := hs1.cells hl0
    injection e1 with e1 _ e3
    subst e1 e3
    obtain ⟨o, ho⟩ := stvs_int l ((l.length - 1) * 10 + 7) (by rw [hs1.1]; omega)
    have hou : outv l = o := by unfold outv; rw [ho]
    rw [hou] at hE
    have ko := hcl _ _ ho
    have HAS := hid (fun W (h : MapAt W B (1 + 2 * l.length) cs) => pasc_any HSO.out B (1 + 2 * l.length) cs W h (by omega))
    obtain ⟨n, hn⟩ : ∃ n, n = l.length := ⟨_, rfl⟩
    rw [← hn] at hl0 hl1 hm1 hE HAS ko ⊢
    obtain ⟨k, hk⟩ : ∃ k, n = k + 1 := ⟨n - 1, by omega⟩
    subst hk
    rw [Nat.add_sub_cancel] at ko hE
    have hsub : IntKind.i64.wrap (((k + 1 : Nat) : Int) - 1) = (k : Int) := by rw [IntKind.wrap_i64]; omega
    have HM1 := hid hm1
    have HEE := hid hE
    have hkl : (k : Int) < ((k + 1 : Nat) : Int) := by omega
    clear hE HCASE hs1 hcl ho hou hn hm1 HSO hb1
    go_wp2_with fail
    refine wp_region_held_drew (S := (fun W => W.cell? ⟨g, k * 10 + 7, none⟩ = some (.int .i64 o))) (by kernel_rfl) ko (fun hHeld => ?_)
    refine wpAnyH_takeW (i := 0) (v := .slice (some ⟨g, 0, none⟩) (k + 1) cv) rfl (by kernel_rfl) (by kernel_rfl) (by kernel_rfl) (fun _ _ _ h => h) (by rfl) (fun W hC => by go_simp) hHeld ?_
    simp only [Act.put, List.setIfInBounds_toArray, List.set_cons_zero, List.set_cons_succ]
    refine wpAnyH_takeW (i := 1) (v := .int .i64 (k : Int)) rfl (by kernel_rfl) (by kernel_rfl) (by kernel_rfl) (fun _ _ _ h => h) (by rfl) (fun W hC => by go_simp) hHeld ?_
    simp only [Act.put, List.setIfInBounds_toArray, List.set_cons_zero, List.set_cons_succ]
    refine wpAnyH_takeW (i := 2) (v := .pointer (some ⟨g, k * 10, none⟩)) rfl (by kernel_rfl) (by kernel_rfl) (by kernel_rfl) (fun _ _ _ h => h) (by rfl) (fun W hC => by (go_simp; intro hh; omega)) hHeld ?_
    simp only [Act.put, List.setIfInBounds_toArray, List.set_cons_zero, List.set_cons_succ]
    refine wpAnyH_takeW (i := 3) (v := .pointer (some ⟨g, k * 10 + 7, none⟩)) rfl (by kernel_rfl) (by kernel_rfl) (by kernel_rfl) (fun _ _ _ h => h) (by rfl) (fun W hC => by go_simp) hHeld ?_
    simp only [Act.put, List.setIfInBounds_toArray, List.set_cons_zero, List.set_cons_succ]
    refine wpAnyH_takeW (i := 4) (v := .pointer (some ⟨g, k * 10 + 7, none⟩)) rfl (by kernel_rfl) (by kernel_rfl) (by kernel_rfl) (fun _ _ _ h => h) (by rfl) (fun W hC => by go_simp) hHeld ?_
    simp only [Act.put, List.setIfInBounds_toArray, List.set_cons_zero, List.set_cons_succ]
    refine wpAnyH_takeW (i := 5) (v := .int .i64 o) rfl (by kernel_rfl) (by kernel_rfl) (by kernel_rfl) (fun _ _ _ h => h) (by rfl) (fun W hC => by go_simp) hHeld ?_
    simp only [Act.put, List.setIfInBounds_toArray, List.set_cons_zero, List.set_cons_succ]
    refine wpAnyH_takeW (i := 6) (v := .int .i64 (k : Int)) rfl (by kernel_rfl) (by kernel_rfl) (by kernel_rfl) (fun _ _ _ h => h) (by rfl) (fun W hC => by go_simp) hHeld ?_
    simp only [Act.put, List.setIfInBounds_toArray, List.set_cons_zero, List.set_cons_succ]
    refine wpAnyH_takeW (i := 7) (v := .map (some B)) rfl (by kernel_rfl) (by kernel_rfl) (by kernel_rfl) (fun _ _ _ h => h) (by rfl) (fun W hC => by go_simp) hHeld ?_
    simp only [Act.put, List.setIfInBounds_toArray, List.set_cons_zero, List.set_cons_succ]
    refine wpAnyH_ready (rs := [8]) (by kernel_rfl) (by simp) ?_
    refine AllReadyH.consW rfl (fun K hK => ?_) AllReadyH.nil
    go_simp
    refine (HAS.out w1.drew HM1.out).mono ?_
    rintro e w2 ⟨v, l', rfl, hcl, hasc, hb2⟩
    have hb12 : Below w1.heap.size w1 w2 := ⟨hb2.os, hb2.tape, hb2.output, hb2.size, hb2.block⟩
    obtain ⟨a2, c2, rfl⟩ := hcl.form
    have ko2 := (hb12.cell (p := ⟨g, k * 10 + 7, none⟩) (World.block_lt_of_cell? _ _ ko)).trans ko
    have HR2 := hid ((hb12.block _ (Array.getElem?_eq_some_iff.1 HR1.out).1).trans HR1.out)
    have HB2 := hid (HB1.out.trans (hb12.mono HB1.out.size))
    have HCL := hid hcl
    have HAC := hid hasc
    have hlt1 := hb12.size
    have HGE : Hid (w.heap.size + 1 < w1.heap.size) := (Array.getElem?_eq_some_iff.1 HR1.out).1
    have HGG : Hid (g ≠ w.heap.size + 1) := by
      rintro rfl
      have h5 := World.block_lt_of_cell? _ _ ko
      have h6 := ko
      have h7 := HR1.out
      have : (k * 10 + 7) < 3 := by
        simp only [World.cell?, h7] at h6
        obtain ⟨h8, _⟩ := Array.getElem?_eq_some_iff.1 h6
        simpa using h8
      omega
    refine hK.out _ _ ko2 (fun hHeld => ?_)
    clear hK K hcl hasc hb2 hb12 d0 d1 d2 df HAS HM1
    have d0 : w2.cell? ⟨w.heap.size + 1, 0, none⟩ = some (.int .i64 0) := by simp [World.cell?, HR2.out]
    have d1 : w2.cell? ⟨w.heap.size + 1, 1, none⟩ = some (.int .i64 0) := by simp [World.cell?, HR2.out]
    have d2 : w2.cell? ⟨w.heap.size + 1, 2, none⟩ = some (.slice none 0 0) := by simp [World.cell?, HR2.out]
    have df := (row3_of HR2.out).frozen
    refine wpAnyH_takeW (i := 9) (v := .agg #[.int .i64 o, .int .i64 (k : Int), .slice a2 l'.length c2]) rfl (by kernel_rfl) (by kernel_rfl) (by kernel_rfl) (fun _ _ _ h => h) (by rfl) (fun W hC => by go_simp) hHeld ?_
    simp only [Act.put, List.setIfInBounds_toArray, List.set_cons_zero, List.set_cons_succ]
    have HP3 := hid (put3_heap HR2.out (.int .i64 o) (.int .i64 (k : Int)) (.slice a2 l'.length c2))
    have HK3 : Hid ((((w2.setCell ⟨w.heap.size + 1, 0, none⟩ (.int .i64 o)).setCell ⟨w.heap.size + 1, 1, none⟩ (.int .i64 (k : Int))).setCell ⟨w.heap.size + 1, 2, none⟩ (.slice a2 l'.length c2)).cell? ⟨g, k * 10 + 7, none⟩ = some (.int .i64 o)) := by
      refine (World.cell?_of_block (w := w2) (a := ⟨g, k * 10 + 7, none⟩) ?_).trans ko2
      rw [Below.heap_setCell _ _ _ _ HGG.out, Below.heap_setCell _ _ _ _ HGG.out, Below.heap_setCell _ _ _ _ HGG.out]
    have HEND := hid (HEE.out (((w2.setCell ⟨w.heap.size + 1, 0, none⟩ (.int .i64 o)).setCell ⟨w.heap.size + 1, 1, none⟩ (.int .i64 (k : Int))).setCell ⟨w.heap.size + 1, 2, none⟩ (.slice a2 l'.length c2)) (.slice a2 l'.length c2) l' (put3_below HB2.out (Nat.le_succ _) (g := w.heap.size + 1) _ _ _) (by
      refine ⟨HCL.out.1, ?_⟩
      have hge := HGE.out
      rcases HCL.out.2 with hn | ⟨g', cap', cur, e1, hb', hg', rest⟩
      · exact .inl hn
      · refine .inr ⟨g', cap', cur, e1, ?_, ?_, rest⟩
        · have h9 : w1.heap.size ≤ g' := hb'
          omega
        · have h9 : w1.heap.size ≤ g' := hb'
          rw [Below.heap_setCell _ _ _ _ (by show g' ≠ w.heap.size + 1; omega), Below.heap_setCell _ _ _ _ (by show g' ≠ w.heap.size + 1; omega), Below.heap_setCell _ _ _ _ (by show g' ≠ w.heap.size + 1; omega)]
          exact hg') HAC.out)
    refine wpAnyH_ready (rs := [10]) (by kernel_rfl) (by simp) ?_
    refine AllReadyH.consW rfl (fun K hK => ?_) AllReadyH.nil
    go_simp
    refine hK.out _ _ HK3.out (fun hHeld => ?_)
    clear hK K
    refine wpAnyH_takeW (i := 11) (v := .nilIface) rfl (by kernel_rfl) (by kernel_rfl) (by kernel_rfl) (fun _ _ _ h => h) (by rfl) (fun W hC => by go_simp) hHeld ?_
    simp only [Act.put, List.setIfInBounds_toArray, List.set_cons_zero, List.set_cons_succ]
    refine wpAnyH_done (by kernel_rfl) ?_ _
    clear hHeld ko ko2 HEE HCL HAC HK3 HR2 HR1 d0 d1 d2 df
    go_wp2_with fail
    (try simp only [Exit.inBlock, Exit.then])
    refine bodyPost_ret (results_ctM rfl _ _ (w.heap.size + 1) 31 #[.int .i64 o, .int .i64 (k : Int), .slice a2 l'.length c2] (0, 0) _ rfl HP3.out Tryd.underlying31 rfl (by kernel_rfl)) rfl ?_
    exact HEND.out

end Go.Proofs.YtoodjpkflcbfdaiDoor

namespace Go.Proofs.YtoodjpkflcbfdaiDoor
open Go.RowKit Go.Maps

theorem asc_pairs : ∀ {us vs : List (Int × Int)}, us.Pairwise (fun a b => a.1 < b.1) → vs.Pairwise (fun a b => a.1 < b.1) → (∀ x, x ∈ us ↔ x ∈ vs) → us = vs
  | [], [], _, _, _ => rfl
  | [], v :: vs, _, _, h => by have := (h v).2 (List.mem_cons_self ..); cases this
  | u :: us, [], _, _, h => by have := (h u).1 (List.mem_cons_self ..); cases this
  | u :: us, v :: vs, hu, hv, h => by
    rw [List.pairwise_cons] at hu hv
    have huv : u = v := by
      rcases List.mem_cons.1 ((h u).1 (List.mem_cons_self ..)) with e | e
      · exact e
      · rcases List.mem_cons.1 ((h v).2 (List.mem_cons_self ..)) with e2 | e2
        · exact e2.symm
        · have h1 := hv.1 u e
          have h2 := hu.1 v e2
          omega
    subst huv
    congr 1
    refine asc_pairs hu.2 hv.2 (fun x => ?_)
    constructor
    · intro hx
      rcases List.mem_cons.1 ((h x).1 (List.mem_cons_of_mem _ hx)) with e | e
      · subst e
        have := hu.1 x hx
        omega
      · exact e
    · intro hx
      rcases List.mem_cons.1 ((h x).2 (List.mem_cons_of_mem _ hx)) with e | e
      · subst e
        have := hv.1 x hx
        omega
      · exact e
theorem AscC.unique {cs l1 l2 : List (Int × Int)} (h1 : AscC cs l1) (h2 : AscC cs l2) : l1 = l2 := asc_pairs h1.1 h2.1 (fun x => by
  obtain ⟨a, b⟩ := x
  rw [h1.2 a b, h2.2 a b])
theorem mgo_more (p : Nat) (L : List InsZ) (limit : Nat) : ∀ (f : Nat) (s : RM) (done l : List (List Int)) (cs : List (Int × Int)), mgo p L limit f s done = .good l cs → done.length < l.length
  | 0, _, _, _, _, h => by simp [mgo] at h
  | f + 1, s, done, l, cs, h => by
    rw [mgo] at h
    split at h
    · cases h
    · split at h
      · cases h
      · split at h
        · cases h
        · split at h
          · injection h with h1 _
            rw [← h1]
            simp
          · have := mgo_more p L limit f _ _ l cs h
            simp at this
            omega
/-- another limit -/
theorem mgo_other (p : Nat) (L : List InsZ) (limit other : Nat) : ∀ (f f2 : Nat) (s : RM) (done l : List (List Int)) (cs : List (Int × Int)), mgo p L limit f s done = .good l cs → done.length ≤ other → done.length + f2 = other + 1 → mgo p L other f2 s done = if other < l.length - 1 then .bad 8 else .good l cs
  | 0, _, _, _, _, _, h, _, _ => by simp [mgo] at h
  | f + 1, 0, _, _, _, _, _, h1, h2 => by omega
  | f + 1, f2 + 1, s, done, l, cs, h, h1, h2 => by
    have hm := mgo_more p L limit _ _ _ _ _ h
    rw [mgo] at h ⊢
    split at h
    · cases h
    · rename_i hpc
      rw [if_neg hpc]
      split at h
      · cases h
      · rename_i hlm
        split at h
        · cases h
        · rename_i her
          split at h
          · rename_i hop
            rw [if_neg (fun hh => hh.2 hop), if_neg her, if_pos hop]
            injection h with e1 e2
            have hl : l.length = done.length + 1 := by rw [← e1]; simp
            rw [if_neg (by omega), e1, e2]
          · rename_i hop
            have hm2 := mgo_more p L limit _ _ _ _ _ h
            simp at hm2
            by_cases hd : done.length = other
            · rw [if_pos ⟨hd, hop⟩, if_pos (by omega)]
            · rw [if_neg (fun hh => hd hh.1), if_neg her, if_neg hop]
              exact mgo_other p L limit other f f2 _ _ l cs h (by simp; omega) (by simp; omega)
theorem mwalk_other {p : Nat} {size : Int} {L : List InsZ} {limit : Nat} (other : Nat) {l : List (List Int)} {cs : List (Int × Int)} (h : mwalk p size L limit = .good l cs) : mwalk p size L other = if other < l.length - 1 then .bad 8 else .good l cs :=
  mgo_other p L limit other _ _ _ _ l cs h (by simp) (by simp)

end Go.Proofs.YtoodjpkflcbfdaiDoor

namespace Go.Proofs.YtoodjpkflcbfdaiDoor
open Go.RowKit Go.Maps

theorem celv_int : ∀ (l : List (Int × Int)) (m : Nat), m < (celv l).length → ∃ x, (celv l)[m]? = some (.int .i64 x) := fun l m hm => by
  rw [celv_len] at hm
  obtain ⟨h1, h2⟩ := celv_at l (m / 2) (by omega)
  have : m = m / 2 * 2 ∨ m = m / 2 * 2 + 1 := by omega
  rcases this with e | e
  · rw [e]; exact ⟨_, h1⟩
  · rw [e]; exact ⟨_, h2⟩
theorem CelR.cellsM {base : Nat} {w : World} {v : Value} {l : List (Int × Int)} (h : CelR base w v l) (h0 : 0 < l.length) : ∃ g cap, v = .slice (some ⟨g, 0, none⟩) l.length cap ∧ ∀ m x, (celv l)[m]? = some (.int .i64 x) → w.cell? ⟨g, m, none⟩ = some (.int .i64 x) := by
  have h' := h
  rcases h.2 with ⟨_, hn⟩ | ⟨g, cap, cur, rfl, hb, hg, hn, hm, hs, ht⟩
  · omega
  · refine ⟨g, cap, rfl, fun m x hx => ?_⟩
    have := World.ownsRow.cells h' (g := g) rfl m _ hx
    have hadd : (⟨g, 0, none⟩ : Addr).add m = ⟨g, 0 + m, none⟩ := by unfold Addr.add; split <;> simp_all
    rw [hadd, Nat.zero_add] at this
    exact this
theorem CelR.belowM {base : Nat} {w w' : World} {v : Value} {l : List (Int × Int)} (h : CelR base w v l) (e : Below w.heap.size w w') : CelR base w' v l := by
  refine ⟨h.1, ?_⟩
  rcases h.2 with hn | ⟨g, cap, cur, h1, hb, hg, rest⟩
  · exact .inl hn
  · exact .inr ⟨g, cap, cur, h1, hb, (e.block _ (Array.getElem?_eq_some_iff.1 hg).1).trans hg, rest⟩
theorem neq_cell (y0 y1 : Int) (w : World) : (binOp BinOp.neq 67 (.agg #[.int .i64 y0, .int .i64 y1]) (.agg #[.int .i64 y0, .int .i64 y1])).run Tryd.prog w = .ok (.bool false) w := by
  simp [go_sem]

set_option maxRecDepth 100000 in
set_option maxHeartbeats 2000000 in
theorem rans_same (o s : Int) (b1 b2 : Nat) (v1 v2 : Value) (l : List (Int × Int)) (w : World) (h1 : CelR b1 w v1 l) (h2 : CelR b2 w v2 l) :
    Calls Tryd.prog 12 #[.agg #[.int .i64 o, .int .i64 s, v1], .agg #[.int .i64 o, .int .i64 s, v2]] w fun e w' => e = .returned (.bool true) ∧ Below w.heap.size w w' := by
  obtain ⟨a1, d1, rfl⟩ := h1.form
  obtain ⟨a2, d2, rfl⟩ := h2.form
  have HS1 : Hid (∀ m x, (celv l)[m]? = some (.int .i64 x) → ∃ g, a1 = some ⟨g, 0, none⟩ ∧ w.cell? ⟨g, m, none⟩ = some (.int .i64 x)) := fun m y hm => by
    have h0 : 0 < l.length := by
      cases l with
      | nil => simp [celv] at hm
      | cons a b => simp
    obtain ⟨g, cap, e1, e2⟩ := h1.cellsM h0
    injection e1 with e1 _ _
    exact ⟨g, e1, e2 m y hm⟩
  have HS2 : Hid (∀ m x, (celv l)[m]? = some (.int .i64 x) → ∃ g, a2 = some ⟨g, 0, none⟩ ∧ w.cell? ⟨g, m, none⟩ = some (.int .i64 x)) := fun m y hm => by
    have h0 : 0 < l.length := by
      cases l with
      | nil => simp [celv] at hm
      | cons a b => simp
    obtain ⟨g, cap, e1, e2⟩ := h2.cellsM h0
    injection e1 with e1 _ _
    exact ⟨g, e1, e2 m y hm⟩
  obtain ⟨n, hn⟩ : ∃ n, n = l.length := ⟨_, rfl⟩
  have HLM : Hid (n ≤ maxLen ∧ (celv l).length = n * 2) := by
    refine ⟨?_, by rw [hn]; exact celv_len l⟩
    rcases h1.2 with ⟨_, h0⟩ | ⟨g, cap, cur, _, _, _, hn', hm, _⟩
    · rw [hn, h0]; exact Nat.zero_le _
    · rw [hn]; omega
  rw [← hn]
  clear h1 h2 hn
  obtain ⟨V, hV⟩ : ∃ V, V = w.alloc (.cells #[.int .i64 o, .int .i64 s, .slice a1 n d1] 31) := ⟨_, rfl⟩
  obtain ⟨W0, hW0⟩ : ∃ W0, W0 = V.alloc (.cells #[.int .i64 o, .int .i64 s, .slice a2 n d2] 31) := ⟨_, rfl⟩
  have b1 : Below w.heap.size w V := by rw [hV]; exact (Below.refl _ _).alloc (Nat.le_refl _) _
  have hs : V.heap.size = w.heap.size + 1 := by rw [hV]; simp
  have b2 : Below V.heap.size V W0 := by rw [hW0]; exact (Below.refl _ _).alloc (Nat.le_refl _) _
  have HB0 := hid (b1.trans (b2.mono b1.size))
  have hr1 : W0.heap[w.heap.size]? = some (.cells #[.int .i64 o, .int .i64 s, .slice a1 n d1] 31 (0, 0)) := (b2.block _ (by omega)).trans (by rw [hV]; exact heap_alloc_new w _)
  have hr2 : W0.heap[w.heap.size + 1]? = some (.cells #[.int .i64 o, .int .i64 s, .slice a2 n d2] 31 (0, 0)) := by rw [hW0, ← hs]; exact heap_alloc_new V _
  have x0 : W0.cell? ⟨w.heap.size, 0, none⟩ = some (.int .i64 o) := by simp [World.cell?, hr1]
  have x1 : W0.cell? ⟨w.heap.size, 1, none⟩ = some (.int .i64 s) := by simp [World.cell?, hr1]
  have x2 : W0.cell? ⟨w.heap.size, 2, none⟩ = some (.slice a1 n d1) := by simp [World.cell?, hr1]
  have y0 : W0.cell? ⟨w.heap.size + 1, 0, none⟩ = some (.int .i64 o) := by simp [World.cell?, hr2]
  have y1 : W0.cell? ⟨w.heap.size + 1, 1, none⟩ = some (.int .i64 s) := by simp [World.cell?, hr2]
  have y2 : W0.cell? ⟨w.heap.size + 1, 2, none⟩ = some (.slice a2 n d2) := by simp [World.cell?, hr2]
  have q0 : (o != o) = false := by simp
  have q1 : (s != s) = false := by simp
  have q2 : ((n : Int) != (n : Int)) = false := by simp
  rw [hV] at hW0
  clear b1 hs b2 hr1 hr2 hV
  have HX2 := hid x2
  have HY2 := hid y2
  go_enter Tryd.func12, Tryd.ntmps12
  go_wp2_with fail
  rw [← hW0]
  clear hW0 x0 x1 y0 y1 q0 q1 q2 x2 y2
  go_loopw [5] (fun u wr => ∃ (i m : Nat), i ≤ n ∧ u = .int .i64 (i : Int) ∧ Hid (wr = W0.drewN m)) (fun u _ => n - (intOf u).toNat)
  case atStart => exact ⟨0, 0, Nat.zero_le _, rfl, rfl⟩
  case round =>
    obtain ⟨i, m, hi, rfl, HWr⟩ := hrel
    have x2 : wr.cell? ⟨w.heap.size, 2, none⟩ = some (.slice a1 n d1) := by rw [HWr.out]; exact HX2.out
    have y2 : wr.cell? ⟨w.heap.size + 1, 2, none⟩ = some (.slice a2 n d2) := by rw [HWr.out]; exact HY2.out
    by_cases hlt : i < n
    · have hlt2 : (i : Int) < (n : Int) := by omega
      have hmx2 := HLM.out.1
      have his : IntKind.i64.wrap ((i : Int) + 1) = (i : Int) + 1 := by rw [IntKind.wrap_i64]; unfold maxLen at hmx2; omega
      have HV : Hid (∀ j, j < 2 → ∃ y g1 g2, a1 = some ⟨g1, 0, none⟩ ∧ a2 = some ⟨g2, 0, none⟩ ∧ wr.cell? ⟨g1, i * 2 + j, none⟩ = some (.int .i64 y) ∧ wr.cell? ⟨g2, i * 2 + j, none⟩ = some (.int .i64 y)) := fun j hj => by
        obtain ⟨y, hy⟩ := celv_int l (i * 2 + j) (by rw [HLM.out.2]; omega)
        obtain ⟨g1, e1, f1⟩ := HS1.out _ _ hy
        obtain ⟨g2, e2, f2⟩ := HS2.out _ _ hy
        have hbb : Below w.heap.size w wr := by rw [HWr.out]; exact HB0.out.trans ((belM W0 m).mono HB0.out.size)
        exact ⟨y, g1, g2, e1, e2, (hbb.cell (p := ⟨g1, i * 2 + j, none⟩) (World.block_lt_of_cell? _ _ f1)).trans f1, (hbb.cell (p := ⟨g2, i * 2 + j, none⟩) (World.block_lt_of_cell? _ _ f2)).trans f2⟩
      obtain ⟨z0, g1, g2, rfl, rfl, p0, r0⟩ := HV.out 0 (by omega)
      obtain ⟨z1, _, _, e1, e2, p1, r1⟩ := HV.out 1 (by omega)
      cases e1; cases e2
      rw [Nat.add_zero] at p0 r0
      clear HV
      have hneq := neq_cell z0 z1
      go_wp2_with fail
      go_quiet (fail)
      go_wp2_with fail
      go_roundw
      case rel => exact ⟨i + 1, m + nq, by omega, by go_num, by unfold Hid; rw [HWr.out]; exact World.drewN_drewN _ _ _⟩
      case measure => simp [intOf]; omega
    · obtain rfl : i = n := by omega
      have hlt2 : ¬ (i : Int) < (i : Int) := by omega
      go_wp2_with fail
      go_ret
      exact ⟨rfl, by rw [HWr.out]; exact HB0.out.trans ((belM W0 m).mono HB0.out.size)⟩

end Go.Proofs.YtoodjpkflcbfdaiDoor

namespace Go.Proofs.YtoodjpkflcbfdaiDoor
open Go.RowKit Go.Maps

set_option maxRecDepth 100000 in
theorem plain6_yes (q : Nat) (w : World) (h3 : 3 ≤ q) (h4 : q ≤ 2147483647) (hpr : Num.Prime q) :
    Calls Tryd.prog 17 #[.int .i64 q] w fun e w' => e = .returned (.pointer (some ⟨w.heap.size, 0, none⟩)) ∧ w'.cell? ⟨w.heap.size, 0, none⟩ = some (.int .i64 q) ∧ Below w.heap.size w w' := by
  have HF := hid (new_yes q w h3 h4 hpr)
  clear hpr
  go_enter Tryd.func17, Tryd.ntmps17
  go_wp2_with fail
  refine HF.out.mono ?_
  rintro e w1 ⟨rfl, hc1, hb1, hlt1⟩
  have HE : Hid (w1.cell? ⟨w.heap.size, 0, none⟩ = some (.int .i64 q) ∧ Below w.heap.size w w1) := ⟨hc1, hb1⟩
  clear hc1 hb1 HF
  go_wp2_with fail
  go_ret
  exact ⟨rfl, HE.out⟩
set_option maxRecDepth 100000 in
theorem plain6_no (p : Int) (w : World) (hno : ¬ okPrime p) (hp1 : -9223372036854775808 ≤ p) (hp2 : p ≤ 9223372036854775807) :
    Calls Tryd.prog 17 #[.int .i64 p] w fun e w' => e = .returned (.pointer none) ∧ w' = w := by
  have HF := hid (new_no p w hno hp1 hp2)
  clear hno hp1 hp2
  go_enter Tryd.func17, Tryd.ntmps17
  go_wp2_with fail
  refine HF.out.mono ?_
  rintro e w1 ⟨rfl, rfl⟩
  go_wp2_with fail
  go_ret
  exact ⟨rfl, rfl⟩

theorem prime97M : Num.Prime 97 := by
  refine ⟨by decide, fun d hd => ?_⟩
  have hle : d ≤ 97 := Nat.le_of_dvd (by decide) hd
  have key : ∀ e, e ≤ 97 → 97 % e = 0 → e = 1 ∨ e = 97 := by decide
  exact key d hle (Nat.mod_eq_zero_of_dvd hd)
/-- chapter 10's example -/
def exL : List InsZ := [⟨5, 0, 5, 0⟩, ⟨5, 1, -1, 0⟩, ⟨3, 0, 1, 2⟩, ⟨0, 2, 0, 0⟩]
def exC : List (Int × Int) := [(0, 0), (1, 5), (2, 96), (3, 92)]
theorem ex_walk : ∃ l, mwalk 97 3 exL 3 = .good l exC ∧ l.length = 4 ∧ outv l = 92 := ⟨_, rfl, rfl, rfl⟩
theorem ex_cells {l : List (Int × Int)} (h : AscC exC l) : l.length = 3 := by
  have hx : AscC exC [(1, 5), (2, 96), (3, 92)] := by
    refine ⟨by decide, fun x y => ?_⟩
    by_cases h0 : x = 0
    · subst h0; simp
    · by_cases h1 : x = 1
      · subst h1
        simp [cvl, finz, exC, cat, I64, List.findIdx?_cons]
        omega
      · by_cases h2 : x = 2
        · subst h2
          simp [cvl, finz, exC, cat, I64, List.findIdx?_cons]
          omega
        · by_cases h3 : x = 3
          · subst h3
            simp [cvl, finz, exC, cat, I64, List.findIdx?_cons]
            omega
          · have hm : finz exC x = -1 := finz_miss (fun j hj => by
              have : j = 0 ∨ j = 1 ∨ j = 2 ∨ j = 3 := by simp [exC] at hj; omega
              rcases this with rfl | rfl | rfl | rfl <;> simp [cat, exC] <;> omega)
            rw [hm]
            simp [h1, h2, h3]
  rw [h.unique hx]
  rfl
theorem ex_bounds : InsB exL := fun k hk => by
  have : k = 0 ∨ k = 1 ∨ k = 2 ∨ k = 3 := by simp [exL] at hk; omega
  rcases this with rfl | rfl | rfl | rfl <;> decide

set_option maxRecDepth 100000 in
set_option maxHeartbeats 2000000 in
theorem lives6_any (SO : SrtAs) (w : World) : Calls Tryd.prog 16 #[] w fun e w' => e = .returned (.bool true) ∧ Below w.heap.size w w' := by
  have HF := hid (plain6_yes 97 w (by decide) (by decide) prime97M)
  have HSO := hid SO
  clear SO
  go_enter Tryd.func16, Tryd.ntmps16
  go_wp2_with fail
  refine HF.out.mono ?_
  rintro e w1 ⟨rfl, hc1, hb1⟩
  have HB1 := hid hb1
  clear hb1 HF
  go_wp2_with fail
  obtain ⟨V, hV⟩ : ∃ V, V = w1.alloc (.cells #[.int .i64 5, .int .i64 0, .int .i64 5, .int .i64 0, .int .i64 5, .int .i64 1, .int .i64 (-1), .int .i64 0, .int .i64 3, .int .i64 0, .int .i64 1, .int .i64 2, .int .i64 0, .int .i64 2, .int .i64 0, .int .i64 0] 71) := ⟨_, rfl⟩
  obtain ⟨W2, hW2⟩ : ∃ W2, W2 = V.alloc (.cells #[.int .i64 3, .slice (some ⟨w1.heap.size, 0, none⟩) 4 4] 24) := ⟨_, rfl⟩
  have b1 : Below w1.heap.size w1 V := by rw [hV]; exact (Below.refl _ _).alloc (Nat.le_refl _) _
  have b2 : Below V.heap.size V W2 := by rw [hW2]; exact (Below.refl _ _).alloc (Nat.le_refl _) _
  have hs : V.heap.size = w1.heap.size + 1 := by rw [hV]; simp
  have hs2 : W2.heap.size = V.heap.size + 1 := by rw [hW2]; simp
  have b12 := b1.trans (b2.mono b1.size)
  have hrow : W2.heap[w1.heap.size]? = some (.cells #[.int .i64 5, .int .i64 0, .int .i64 5, .int .i64 0, .int .i64 5, .int .i64 1, .int .i64 (-1), .int .i64 0, .int .i64 3, .int .i64 0, .int .i64 1, .int .i64 2, .int .i64 0, .int .i64 2, .int .i64 0, .int .i64 0] 71 (0, 0)) := (b2.block _ (by omega)).trans (by rw [hV]; exact heap_alloc_new w1 _)
  have HLI : Hid (LstI W2.heap.size W2 (some ⟨w1.heap.size, 0, none⟩) 4 exL) := by
    refine ⟨fun k hk => ⟨w1.heap.size, 0, rfl, by omega, ?_⟩, Nat.le_refl _, fun h => by cases h⟩
    have : k = 0 ∨ k = 1 ∨ k = 2 ∨ k = 3 := by simp [exL] at hk; omega
    rcases this with rfl | rfl | rfl | rfl <;> simp [World.cell?, hrow, insat, exL]
  have HRN := hid (prun_any HSO.out 97 w.heap.size 3 3 (some ⟨w1.heap.size, 0, none⟩) 4 exL W2 (by decide) (by decide) prime97M ((b12.cell (p := ⟨w.heap.size, 0, none⟩) (World.block_lt_of_cell? _ _ hc1)).trans hc1) (by decide) HLI.out ex_bounds)
  have HB2 := hid (HB1.out.trans (b12.mono HB1.out.size))
  rw [← hV, ← hW2]
  clear hV hW2 b1 b2 hs hs2 b12 hrow HLI HSO HB1 hc1
  refine HRN.out.mono ?_
  rintro e w3 ⟨hb3, hr3⟩
  obtain ⟨l, hX, hl4, hou⟩ := ex_walk
  have hf0 : ¬ fz6 ((97 : Nat) : Int) 3 exL.length 3 ≠ 0 := by decide
  rw [if_neg hf0, show (3 : Int).toNat = 3 from rfl, hX] at hr3
  obtain ⟨v, l', rfl, hcl, hasc⟩ := hr3
  have hl3 := ex_cells hasc
  obtain ⟨a3, c3, rfl⟩ := hcl.form
  rw [hl3, hou, hl4]
  have HB3 := hid (HB2.out.trans (hb3.mono HB2.out.size))
  clear hb3 HRN HB2 hX hl4 hou hf0 hcl hasc hl3
  go_wp2_with fail
  go_ret
  exact ⟨rfl, HB3.out.alloc HB3.out.size _⟩

/-- what Run gives, in two -/
theorem RuR.cases {p : Nat} {size : Int} {L : List InsZ} {limit : Int} {w w' : World} {e : Ending} (h : RuR p size L limit w e w') :
    (∃ z, z ≠ 0 ∧ e = .returned (.tuple #[.agg #[.int .i64 0, .int .i64 0, .slice none 0 0], .iface 68 (.int .i64 z)]) ∧ ((fz6 (p : Int) size L.length limit ≠ 0 ∧ z = fz6 (p : Int) size L.length limit) ∨ (fz6 (p : Int) size L.length limit = 0 ∧ mwalk p size L limit.toNat = .bad z))) ∨
    (fz6 (p : Int) size L.length limit = 0 ∧ ∃ l cs a c l', mwalk p size L limit.toNat = .good l cs ∧ 0 < l.length ∧ e = .returned (.tuple #[.agg #[.int .i64 (outv l), .int .i64 ((l.length - 1 : Nat) : Int), .slice a l'.length c], .nilIface]) ∧ CelR w.heap.size w' (.slice a l'.length c) l' ∧ AscC cs l') := by
  obtain ⟨_, h2⟩ := h
  by_cases hz : fz6 (p : Int) size L.length limit ≠ 0
  · rw [if_pos hz, errV_nz hz] at h2
    exact .inl ⟨_, hz, h2, .inl ⟨hz, rfl⟩⟩
  · rw [if_neg hz] at h2
    have hz0 : fz6 (p : Int) size L.length limit = 0 := Decidable.byContradiction hz
    cases hX : mwalk p size L limit.toNat with
    | bad z =>
      rw [hX] at h2
      have hnz := mgo_bad _ _ _ _ _ _ _ hX
      have h2' : e = _ := h2
      rw [errV_nz hnz] at h2'
      exact .inl ⟨z, hnz, h2', .inr ⟨hz0, rfl⟩⟩
    | good l cs =>
      rw [hX] at h2
      obtain ⟨v, l', h5, h6, h7⟩ := h2
      obtain ⟨a, c, rfl⟩ := h6.form
      exact .inr ⟨hz0, l, cs, a, c, l', rfl, (mgo_len _ _ _ _ _ _ _ _ hX).1, h5, h6, h7⟩
theorem fz6_lim {p size : Int} {n : Nat} {l1 l2 : Int} (h : fz6 p size n l1 = 0) : fz6 p size n l2 = if l2 < 0 ∨ 16384 < l2 then 3 else 0 := by
  unfold fz6 at h ⊢
  split at h
  · omega
  · rename_i h1
    rw [if_neg h1]

end Go.Proofs.YtoodjpkflcbfdaiDoor

namespace Go.Proofs
open Go.Shelf

def Tryd.sortC_ren : Go.Shelf.Ren := ⟨fun | 6 => 39 | 15 => 62 | 14 => 61 | 28 => 97 | 29 => 98 | 20 => 89 | 21 => 90 | 22 => 91 | 23 => 92 | 24 => 93 | 25 => 94 | 26 => 95 | 27 => 96 | 46 => 124 | 47 => 125 | 48 => 126 | 49 => 127 | 50 => 128 | 57 => 146 | n => n, fun | 22 => 29 | 24 => 67 | 25 => 113 | 3 => 3 | 39 => 132 | 0 => 0 | 53 => 181 | 55 => 183 | 4 => 4 | 46 => 174 | 45 => 173 | 50 => 178 | 5 => 5 | 9 => 9 | 66 => 214 | 70 => 218 | 76 => 227 | 77 => 228 | n => n, fun | n => n⟩
theorem Tryd.sortC : Go.Proofs.SlLaysF0.n6 Tryd.prog Tryd.sortC_ren := {
  mixed := by kernel_rfl
  f6 := ⟨Tryd.f39.name, by decide, Tryd.func39.trans (congrArg some (by kernel_rfl))⟩
  f14 := ⟨Tryd.f61.name, by decide, Tryd.func61.trans (congrArg some (by kernel_rfl))⟩
  f15 := Tryd.func62.trans (congrArg some (by kernel_rfl))
  f20 := ⟨Tryd.f89.name, by decide, Tryd.func89.trans (congrArg some (by kernel_rfl))⟩
  f21 := ⟨Tryd.f90.name, by decide, Tryd.func90.trans (congrArg some (by kernel_rfl))⟩
  f22 := ⟨Tryd.f91.name, by decide, Tryd.func91.trans (congrArg some (by kernel_rfl))⟩
  f23 := ⟨Tryd.f92.name, by decide, Tryd.func92.trans (congrArg some (by kernel_rfl))⟩
  f24 := ⟨Tryd.f93.name, by decide, Tryd.func93.trans (congrArg some (by kernel_rfl))⟩
  f25 := ⟨Tryd.f94.name, by decide, Tryd.func94.trans (congrArg some (by kernel_rfl))⟩
  f26 := ⟨Tryd.f95.name, by decide, Tryd.func95.trans (congrArg some (by kernel_rfl))⟩
  f27 := ⟨Tryd.f96.name, by decide, Tryd.func96.trans (congrArg some (by kernel_rfl))⟩
  f28 := Tryd.func97.trans (congrArg some (by kernel_rfl))
  f29 := Tryd.func98.trans (congrArg some (by kernel_rfl))
  f46 := ⟨Tryd.f124.name, by decide, Tryd.func124.trans (congrArg some (by kernel_rfl))⟩
  f47 := Tryd.func125.trans (congrArg some (by kernel_rfl))
  f48 := Tryd.func126.trans (congrArg some (by kernel_rfl))
  f49 := ⟨Tryd.f127.name, by decide, Tryd.func127.trans (congrArg some (by kernel_rfl))⟩
  f50 := ⟨Tryd.f128.name, by decide, Tryd.func128.trans (congrArg some (by kernel_rfl))⟩
  f57 := ⟨Tryd.f146.name, by decide, Tryd.func146.trans (congrArg some (by kernel_rfl))⟩
  t0 := Tryd.underlying0
  a0 := Tryd.isAgg0
  z0 := Tryd.sizeOf0
  v0 := Tryd.zeroValue0
  t3 := Tryd.underlying3
  a3 := Tryd.isAgg3
  z3 := Tryd.sizeOf3
  v3 := Tryd.zeroValue3
  t4 := Tryd.underlying4
  a4 := Tryd.isAgg4
  z4 := Tryd.sizeOf4
  v4 := Tryd.zeroValue4
  t5 := Tryd.underlying5
  a5 := Tryd.isAgg5
  z5 := Tryd.sizeOf5
  v5 := Tryd.zeroValue5
  t9 := Tryd.underlying9
  a9 := Tryd.isAgg9
  z9 := Tryd.sizeOf9
  v9 := Tryd.zeroValue9
  t22 := Tryd.underlying29
  a22 := Tryd.isAgg29
  z22 := Tryd.sizeOf29
  v22 := Tryd.zeroValue29
  t25 := Tryd.underlying113
  a25 := Tryd.isAgg113
  z25 := Tryd.sizeOf113
  v25 := Tryd.zeroValue113
  t39 := Tryd.underlying132
  a39 := Tryd.isAgg132
  z39 := Tryd.sizeOf132
  v39 := Tryd.zeroValue132
  t45 := Tryd.underlying173
  a45 := Tryd.isAgg173
  z45 := Tryd.sizeOf173
  v45 := Tryd.zeroValue173
  t46 := Tryd.underlying174
  a46 := Tryd.isAgg174
  z46 := Tryd.sizeOf174
  v46 := Tryd.zeroValue174
  t50 := Tryd.underlying178
  a50 := Tryd.isAgg178
  z50 := Tryd.sizeOf178
  v50 := Tryd.zeroValue178
  t53 := Tryd.underlying181
  a53 := Tryd.isAgg181
  z53 := Tryd.sizeOf181
  v53 := Tryd.zeroValue181
  t55 := Tryd.underlying183
  a55 := Tryd.isAgg183
  z55 := Tryd.sizeOf183
  v55 := Tryd.zeroValue183
  t66 := Tryd.underlying214
  a66 := Tryd.isAgg214
  z66 := Tryd.sizeOf214
  v66 := Tryd.zeroValue214
  t70 := Tryd.underlying218
  a70 := Tryd.isAgg218
  z70 := Tryd.sizeOf218
  v70 := Tryd.zeroValue218
  t76 := Tryd.underlying227
  a76 := Tryd.isAgg227
  z76 := Tryd.sizeOf227
  v76 := Tryd.zeroValue227
  t77 := Tryd.underlying228
  a77 := Tryd.isAgg228
  z77 := Tryd.sizeOf228
  v77 := Tryd.zeroValue228 }
end Go.Proofs

namespace Go.Proofs.YtoodjpkflcbfdaiDoor
open Go.RowKit Go.Maps

set_option maxHeartbeats 1000000 in
theorem nani_any (x : Int) (w : World) : Calls Tryd.prog 63 #[.int .i64 x] w fun e w' => e = .returned (.bool false) ∧ w' = w := by
  go_enter Tryd.func63, Tryd.ntmps63
  go_wp2_with fail
  go_ret
  exact ⟨by simp, rfl⟩

set_option maxHeartbeats 1000000 in
theorem cmpi_any (x y : Int) (w : World) : Calls Tryd.prog 41 #[.int .i64 x, .int .i64 y] w fun e w' => e = .returned (.int .i64 (Lib.compareInt x y)) ∧ w' = w := by
  go_enter Tryd.func41, Tryd.ntmps41
  go_wp2_with fail
  refine (nani_any x _).mono ?_
  rintro e w1 ⟨rfl, h1⟩
  rw [h1]
  go_wp2_with fail
  refine (nani_any y _).mono ?_
  rintro e w2 ⟨rfl, h2⟩
  rw [h2]
  go_wp2_with fail
  all_goals (go_ret; refine ⟨?_, rfl⟩; unfold Lib.compareInt; (repeat' split) <;> first | rfl | (exfalso; omega))

set_option maxHeartbeats 1000000 in
/-- ascending's own comparison -/
theorem casc_any (x y : Int × Int) (W : World) : Calls Tryd.prog 40 #[.agg #[.int .i64 x.1, .int .i64 x.2], .agg #[.int .i64 y.1, .int .i64 y.2]] W fun e w' => e = .returned (.int .i64 (Lib.compareInt x.1 y.1)) ∧ ∃ q os', w' = Sort.grow (W.drewN q) os' := by
  have hcon := fun W' => cmpi_any x.1 y.1 W'
  generalize Lib.compareInt x.1 y.1 = r at hcon ⊢
  go_enter Tryd.func40, Tryd.ntmps40
  go_wp2_with fail
  refine (hcon _).mono ?_
  rintro e w' ⟨rfl, rfl⟩
  go_wp2_with fail
  go_ret
  exact ⟨rfl, 0, _, by rw [Sort.alloc_eq_grow, Sort.alloc_eq_grow, Sort.grow_grow]; rfl⟩

end Go.Proofs.YtoodjpkflcbfdaiDoor

namespace Go.Proofs.YtoodjpkflcbfdaiDoor
open Go.RowKit Go.Maps

/-- a cell's two numbers -/
def enc2 (x : Int × Int) : List Value := [.int .i64 x.1, .int .i64 x.2]
def cf2 (x y : Int × Int) : Int := Lib.compareInt x.1 y.1
theorem lt2 (x y : Int × Int) : ltOf cf2 x y = decide (x.1 < y.1) := by
  unfold ltOf cf2 Lib.compareInt
  by_cases h1 : x.1 < y.1
  · simp [h1]
  · by_cases h2 : y.1 < x.1 <;> simp [h1, h2]
theorem swo2 : Sort.SWO (ltOf cf2) where
  irrefl x := by rw [lt2]; simp
  trans x y z h1 h2 := by rw [lt2] at *; simp at *; omega
  ntrans x y z h1 h2 := by rw [lt2] at *; simp at *; omega

theorem celv_flat (l : List (Int × Int)) (t : Nat) (h : t < l.length * 2) : (celv l)[t]? = some (Sort.flatK enc2 2 l.toArray)[t]! := by
  rw [Sort.get_flatK enc2 2 _ t (by simpa using h)]
  have hj : t / 2 < l.length := by omega
  have hc : (l.toArray)[t / 2]! = cat l (t / 2) := by
    rw [getElem!_pos _ _ (by simpa using hj)]
    simp [cat, hj]
  rw [hc]
  have ha := celv_at l (t / 2) hj
  rcases Nat.mod_two_eq_zero_or_one t with h0 | h0
  · rw [h0]
    have e : t / 2 * 2 = t := by omega
    rw [e] at ha
    exact ha.1
  · rw [h0]
    have e : t / 2 * 2 + 1 = t := by omega
    rw [e] at ha
    exact ha.2

theorem srt_perm {l : List (Int × Int)} {d' : Array (Int × Int)} (h : Sort.PermIn 0 l.toArray.size l.toArray d') : d'.size = l.length ∧ d'.toList.Perm l := by
  obtain ⟨h1, _, h3⟩ := h
  have h1' : d'.size = l.length := by simpa using h1
  refine ⟨h1', ?_⟩
  have e1 : (d'.extract 0 l.toArray.size) = d' := by
    rw [← h1]
    simp
  have e2 : (l.toArray.extract 0 l.toArray.size).toList = l := by simp
  rw [e1, e2] at h3
  exact h3

theorem srt_up {n : Nat} {d' : Array (Int × Int)} (hn : d'.size = n) (h : Sort.SortedIn (ltOf cf2) 0 n d') : d'.toList.Pairwise (fun a b => a.1 ≤ b.1) := by
  rw [List.pairwise_iff_getElem]
  intro i j hi hj hij
  have hi' : i < d'.size := by simpa using hi
  have hj' : j < d'.size := by simpa using hj
  have := h i j (Nat.zero_le _) hij (by omega)
  rw [lt2, getElem!_pos d' i hi', getElem!_pos d' j hj'] at this
  have h2 := of_decide_eq_false this
  simp only [Array.getElem_toList]
  omega

theorem srt_heap (W : World) (g n : Nat) (d' : Array (Int × Int)) (os : Array Obj) (k : Nat) (hk : k < W.heap.size) :
    (sortWorldK enc2 2 W g 0 n d' os).heap[k]? = if g = k then (W.heap[k]?).map (Sort.onCells (Sort.putCells id 0 (Sort.flatK enc2 2 d'))) else W.heap[k]? := by
  show ((W.heap.modify g (Sort.onCells (Sort.putCells id 0 (Sort.flatK enc2 2 d')))) ++ os)[k]? = _
  rw [Array.getElem?_append_left (by simpa using hk), Array.getElem?_modify]

theorem srt_cel {base : Nat} {W : World} {g cap : Nat} {l : List (Int × Int)} (h : CelR base W (.slice (some ⟨g, 0, none⟩) l.length cap) l) (hg0 : g < W.heap.size) (n : Nat) (d' : Array (Int × Int)) (os : Array Obj) (hd : d'.size = l.length) :
    CelR base (sortWorldK enc2 2 W g 0 n d' os) (.slice (some ⟨g, 0, none⟩) l.length cap) d'.toList := by
  obtain ⟨h1, h2⟩ := h
  have hdl : d'.toList.length = l.length := by simpa using hd
  refine ⟨celv_len _, .inr ?_⟩
  rcases h2 with ⟨h2, _⟩ | ⟨g', cap', cur, hv, hb, hgc, hn, hm, hs, ht⟩
  · cases h2
  · injection hv with hv1 hv2 hv3
    injection hv1 with hv1
    injection hv1 with hv1
    subst hv1 hv3
    refine ⟨g, cap, Sort.putCells id 0 (Sort.flatK enc2 2 d') cur, by rw [hdl], hb, ?_, by rw [hdl]; exact hn, hm, by simpa [Sort.putCells] using hs, ?_⟩
    · rw [srt_heap W g n d' os g hg0, if_pos rfl, hgc]
      rfl
    · apply List.ext_getElem?
      intro t
      by_cases hlt : t < d'.toList.length * 2
      · have hcu : t < cur.size := by rw [hs]; rw [hdl] at hlt; omega
        rw [List.getElem?_take_of_lt hlt, celv_flat _ t hlt]
        rw [Array.getElem?_toList]
        unfold Sort.putCells
        rw [Array.getElem?_mapIdx, Array.getElem?_eq_getElem hcu, Option.map_some, if_pos ⟨Nat.zero_le _, by rw [Sort.size_flatK]; rw [hdl] at hlt; omega⟩]
        rfl
      · rw [List.getElem?_take_eq_none (by omega), List.getElem?_eq_none (by rw [celv_len]; omega)]

theorem srt_below {base : Nat} {W : World} {g : Nat} (hb : base ≤ g) (hg0 : g < W.heap.size) (n : Nat) (d' : Array (Int × Int)) (os : Array Obj) : Below base W (sortWorldK enc2 2 W g 0 n d' os) := by
  refine ⟨rfl, rfl, rfl, size_sortWorldK_c enc2 2 W g 0 n d' os, fun k hk => ?_⟩
  rw [srt_heap W g n d' os k (by omega), if_neg (by omega)]

theorem srtAs : SrtAs := by
  intro base v l W h hl hb
  have h' := h
  rcases h'.2 with ⟨rfl, h0⟩ | ⟨g, cap, cur, rfl, hbg, hg, hn, hm, hs, ht⟩
  · have hl0 : l = [] := List.length_eq_zero_iff.1 h0
    subst hl0
    have hcon := AnyF.slices_SortFunc_none Tryd.sortC none 0 (.func (.func 40) #[] #[]) W
    refine Calls.mono hcon ?_
    rintro e w' ⟨rfl, rfl⟩
    exact ⟨rfl, [], .refl _, .nil, h, .refl _ _⟩
  · have hg0 : g < W.heap.size := by
      rcases Nat.lt_or_ge g W.heap.size with h | h
      · exact h
      · rw [Array.getElem?_eq_none h] at hg
        cases hg
    have hH : Sort.HoldsK enc2 2 W g 0 l.toArray := by
      intro t hts
      have hts' : t < l.length * 2 := by simpa using hts
      rw [Nat.zero_add]
      have hcu : t < cur.size := by rw [hs]; omega
      have hc := celv_flat l t hts'
      rw [← ht, List.getElem?_take_of_lt hts'] at hc
      constructor
      · unfold World.cell?
        rw [hg]
        simpa using hc
      · unfold World.frozen?
        rw [hg]
        simp
    have hcon := AnyQ.slices_SortFunc Tryd.sortC 2 Tryd.isAgg67 Tryd.sizeOf67 enc2 (fun _ => rfl) (fun x v hv => by simp [enc2] at hv; rcases hv with rfl | rfl <;> rfl) cf2 swo2 40 #[] g 0 cap l.toArray W (enters_of Tryd.func40 (by kernel_rfl) rfl) (fun _ _ _ _ x y => casc_any x y _) hH hg0 (by simp; omega)
    have hsz : l.toArray.size = l.length := by simp
    refine Calls.mono (by rw [hsz] at hcon; exact hcon) ?_
    rintro e w' ⟨rfl, d', n, os, hp, hso, rfl⟩
    rw [← hsz] at hp
    obtain ⟨hd, hpm⟩ := srt_perm hp
    exact ⟨rfl, d'.toList, hpm, srt_up hd hso, srt_cel h hg0 n d' os hd, srt_below hbg hg0 n d' os⟩

end Go.Proofs.YtoodjpkflcbfdaiDoor

namespace Go.Proofs.YtoodjpkflcbfdaiDoor
open Go.RowKit Go.Maps

/-- what a machine shows is told, and what was told stays -/
def Okk (p : Nat) (cs0 : List (Int × Int)) (s : RM) : Prop := s.err = 0 → Zer s.cs ∧ (∀ j, 0 ≤ finz s.cs (s.at' j) ∧ cvl s.cs (s.at' j) = s.is' j) ∧ (∀ u, 0 ≤ finz cs0 u → 0 ≤ finz s.cs u ∧ cvl s.cs u = cvl cs0 u) ∧ (∀ u, 0 ≤ finz s.cs u → 0 ≤ u ∧ u < p)
theorem upd_two (f g : Nat → Int) (k : Nat) (x y : Int) (j : Nat) : (updM f k x j = x ∧ updM g k y j = y) ∨ (updM f k x j = f j ∧ updM g k y j = g j) := by
  unfold updM
  split
  · exact .inl ⟨rfl, rfl⟩
  · exact .inr ⟨rfl, rfl⟩
theorem okk_look {p : Nat} {cs0 : List (Int × Int)} {s : RM} (h : Okk p cs0 s) (x : Int) : Okk p cs0 (s.look x).1 := by
  by_cases he : s.err = 0
  · obtain ⟨h1, h2, h3, h4⟩ := h he
    rw [look_eq he]
    by_cases hx : 0 ≤ finz s.cs x
    · rw [if_pos hx]
      intro _
      refine ⟨h1, fun j => ?_, h3, h4⟩
      show 0 ≤ finz s.cs (updM s.at' s.slot x j) ∧ cvl s.cs (updM s.at' s.slot x j) = updM s.is' s.slot (cvl s.cs x) j
      rcases upd_two s.at' s.is' s.slot x (cvl s.cs x) j with ⟨e1, e2⟩ | ⟨e1, e2⟩
      · rw [e1, e2]; exact ⟨hx, rfl⟩
      · rw [e1, e2]; exact h2 j
    · rw [if_neg hx]
      intro e
      exact absurd (show (10 : Int) = 0 from e) (by decide)
  · rw [look_err he]
    exact h
theorem okk_tell {p : Nat} {cs0 : List (Int × Int)} {s : RM} (h : Okk p cs0 s) (x y : Int) (hx : 0 ≤ x ∧ x < p) : Okk p cs0 (s.tell p x y) := by
  by_cases he : s.err = 0
  · obtain ⟨h1, h2, h3, h4⟩ := h he
    rw [tell_eq he]
    by_cases ht : (tel s.cs x (y % (p : Int))).1 = 0
    · rw [if_pos ht]
      intro _
      have hxx : 0 ≤ finz (tel s.cs x (y % (p : Int))).2 x := by rw [(tel_same ht).1]; exact tld_finz.2 (.inr rfl)
      refine ⟨h1.tel ht, fun j => ?_, fun u hu => ?_, fun u hu => ?_⟩
      · show 0 ≤ finz (tel s.cs x (y % (p : Int))).2 (updM s.at' s.slot x j) ∧ cvl (tel s.cs x (y % (p : Int))).2 (updM s.at' s.slot x j) = updM s.is' s.slot (y % (p : Int)) j
        rcases upd_two s.at' s.is' s.slot x (y % (p : Int)) j with ⟨e1, e2⟩ | ⟨e1, e2⟩
        · rw [e1, e2]; exact ⟨hxx, tel_is ht⟩
        · rw [e1, e2]
          have hk := tel_keep ht (h2 j).1
          exact ⟨hk.2, hk.1.trans (h2 j).2⟩
      · have hk := tel_keep ht (h3 u hu).1
        exact ⟨hk.2, hk.1.trans (h3 u hu).2⟩
      · have hu' : 0 ≤ finz (tel s.cs x (y % (p : Int))).2 u := hu
        rw [(tel_same ht).1] at hu'
        rcases tld_finz.1 hu' with h5 | h5
        · exact h4 u h5
        · rw [h5]; exact hx
    · rw [if_neg ht]
      intro e
      exact absurd (show (7 : Int) = 0 from e) (by decide)
  · rw [tell_err he]
    exact h
theorem okk_must {p : Nat} {cs0 : List (Int × Int)} {s : RM} (h : Okk p cs0 s) (b : Bool) : Okk p cs0 (s.must b) := by
  unfold RM.must
  split
  · intro e
    exact absurd (show (7 : Int) = 0 from e) (by decide)
  · exact h
theorem okk_rck {p : Nat} {cs0 : List (Int × Int)} {s : RM} (h : Okk p cs0 s) (op y : Int) : Okk p cs0 (s.rck op y) := by
  unfold RM.rck
  split
  · exact okk_must h _
  · exact h
theorem okk_step {p : Nat} {cs0 : List (Int × Int)} {s : RM} (hp : 3 ≤ p) (h : Okk p cs0 s) (hr : 0 ≤ s.ap ∧ s.ap < p) (op a b c : Int) : Okk p cs0 (s.step p op a b c).1 := by
  have e := fun x => emod_bounds x p hp
  unfold RM.step
  split
  · unfold RM.three
    exact okk_tell (okk_rck (okk_look (okk_look h _) _) _ _) _ _ (e _)
  · split
    · exact okk_tell h _ _ (e _)
    · split
      · exact okk_must (okk_look (okk_look h _) _) _
      · split
        · exact h
        · split
          · exact okk_look h _
          · split
            · exact okk_tell (okk_tell h _ _ hr) _ _ (e _)
            · split
              · exact okk_look (okk_look (okk_look h _) _) _
              · split
                · exact okk_tell h _ _ (e _)
                · split
                  · exact okk_tell (okk_look h _) _ _ (e _)
                  · split
                    · exact okk_look h _
                    · intro e
                      exact absurd (show (7 : Int) = 0 from e) (by decide)
/-- a step's three cells, as they are told -/
def Tld3 (cs : List (Int × Int)) (x : List Int) : Prop := ∀ j, j < 3 → 0 ≤ finz cs (x.getD (4 + j) 0) ∧ cvl cs (x.getD (4 + j) 0) = x.getD (7 + j) 0
theorem now_tld {p : Nat} {cs0 : List (Int × Int)} {s : RM} (h : Okk p cs0 s) (he : s.err = 0) : Tld3 s.cs s.now ∧ s.now.length = 10 := by
  refine ⟨fun j hj => ?_, rfl⟩
  have h2 := (h he).2.1
  have : j = 0 ∨ j = 1 ∨ j = 2 := by omega
  rcases this with rfl | rfl | rfl
  · exact h2 0
  · exact h2 1
  · exact h2 2
theorem okk_fresh {p : Nat} {cs : List (Int × Int)} (hz : Zer cs) (hb : ∀ u, 0 ≤ finz cs u → 0 ≤ u ∧ u < (p : Int)) (n : Rg) : Okk p cs (freshM cs n) := fun _ => ⟨hz, fun _ => hz, fun _ hu => ⟨hu, rfl⟩, hb⟩
theorem mgo_once (p : Nat) (L : List InsZ) (limit : Nat) (hp : 3 ≤ p) : ∀ (f : Nat) (k : Nat) (n : Rg) (cs1 : List (Int × Int)) (done l : List (List Int)) (cs : List (Int × Int)), mgo p L limit f (freshM cs1 n) done = .good l cs → Zer cs1 → (∀ u, 0 ≤ finz cs1 u → 0 ≤ u ∧ u < (p : Int)) → SOk p k 0 (freshM cs1 n) → RgB p n → (∀ x, x ∈ done → Tld3 cs1 x ∧ x.length = 10) →
    Zer cs ∧ (∀ u, 0 ≤ finz cs u → 0 ≤ u ∧ u < (p : Int)) ∧ ∀ x, x ∈ l → Tld3 cs x ∧ x.length = 10
  | 0, _, _, _, _, _, _, h, _, _, _, _, _ => by simp [mgo] at h
  | f + 1, k, n, cs1, done, l, cs, h, hz, hb, hs, hr, hd => by
    rw [mgo] at h
    split at h
    · cases h
    · split at h
      · cases h
      · split at h
        · cases h
        · rename_i her
          generalize hop : (insat L (freshM cs1 n).pc.toNat).op = op at h her
          generalize (insat L (freshM cs1 n).pc.toNat).a = a at h her
          generalize (insat L (freshM cs1 n).pc.toNat).b = b at h her
          generalize (insat L (freshM cs1 n).pc.toNat).c = c at h her
          have he0 : ((freshM cs1 n).step p op a b c).1.err = 0 := Decidable.byContradiction her
          have hk := okk_step hp (okk_fresh hz hb n) hr.2.2.1 op a b c
          have hso := step_ok hp hs hr op a b c
          have hnow := now_tld hk he0
          obtain ⟨g1, g2, g3, g4⟩ := hk he0
          have hall : ∀ x, x ∈ done ++ [((freshM cs1 n).step p op a b c).1.now] → Tld3 ((freshM cs1 n).step p op a b c).1.cs x ∧ x.length = 10 := fun x hx => by
            rcases List.mem_append.1 hx with hx | hx
            · obtain ⟨hd1, hd2⟩ := hd x hx
              exact ⟨fun j hj => ⟨(g3 _ (hd1 j hj).1).1, (g3 _ (hd1 j hj).1).2.trans (hd1 j hj).2⟩, hd2⟩
            · rw [List.mem_singleton] at hx
              rw [hx]
              exact hnow
          split at h
          · injection h with h1 h2
            rw [← h1, ← h2]
            exact ⟨g1, g4, hall⟩
          · exact mgo_once p L limit hp f (k + 2) _ _ _ l cs h g1 g4 ⟨hso.1.1, hso.1.2.1, fun _ => Nat.le_refl _⟩ hso.2 hall
theorem mwalk_once {p : Nat} {size : Int} {L : List InsZ} {limit : Nat} {l : List (List Int)} {cs : List (Int × Int)} (hp : 3 ≤ p) (h : mwalk p size L limit = .good l cs) :
    Zer cs ∧ (∀ u, 0 ≤ finz cs u → 0 ≤ u ∧ u < (p : Int)) ∧ ∀ x, x ∈ l → Tld3 cs x ∧ x.length = 10 := by
  refine mgo_once p L limit hp _ 1 _ _ _ l cs h zer_first (fun u hu => ?_) ⟨fun j hj => ?_, Nat.le_refl _, fun _ => Nat.le_refl _⟩ ⟨⟨Int.le_refl _, by show (0 : Int) < p; omega⟩, ⟨by show (0 : Int) ≤ 1; omega, by show (1 : Int) < p; omega⟩, emod_bounds _ p hp, ⟨Int.le_refl _, by show (0 : Int) < p; omega⟩⟩ (fun x hx => by cases hx)
  · have : u = 0 := by
      rcases finz_cases [(0, 0)] u with e | ⟨i, _, hi, he⟩
      · omega
      · have : i = 0 := by simpa using hi
        subst this
        simpa [cat] using he.symm
    subst this
    exact ⟨Int.le_refl _, by omega⟩
  · have : j = 0 := by simpa [freshM] using hj
    subst this
    show 0 ≤ (0 : Int) ∧ (0 : Int) < p
    omega

end Go.Proofs.YtoodjpkflcbfdaiDoor

namespace Go.Proofs.YtoodjpkflcbfdaiDoor
open Go.RowKit Go.Maps

/-- the least of the first i cells above low -/
def Bst (cs : List (Int × Int)) (low : Int) (i : Nat) (b : Int) : Prop := (b = -1 ∧ ∀ j, j < i → (cat cs j).1 ≤ low) ∨ ∃ m : Nat, b = m ∧ m < i ∧ low < (cat cs m).1 ∧ (∀ j, j < i → low < (cat cs j).1 → (cat cs m).1 ≤ (cat cs j).1) ∧ (∀ j, j < m → (cat cs j).1 ≠ (cat cs m).1)
theorem bst_first (cs : List (Int × Int)) (low : Int) : Bst cs low 0 (-1) := .inl ⟨rfl, fun _ h => absurd h (Nat.not_lt_zero _)⟩
theorem bst_skip {cs : List (Int × Int)} {low : Int} {i : Nat} {b : Int} (h : Bst cs low i b) (hn : (cat cs i).1 ≤ low ∨ ∃ m : Nat, b = m ∧ (cat cs m).1 ≤ (cat cs i).1) : Bst cs low (i + 1) b := by
  rcases h with ⟨h1, h2⟩ | ⟨m, h1, h2, h3, h4, h5⟩
  · refine .inl ⟨h1, fun j hj => ?_⟩
    rcases hn with hn | ⟨m, hm, _⟩
    · by_cases e : j = i
      · rw [e]; exact hn
      · exact h2 j (by omega)
    · omega
  · refine .inr ⟨m, h1, by omega, h3, fun j hj hl => ?_, h5⟩
    by_cases e : j = i
    · subst e
      rcases hn with hn | ⟨m', hm, hn⟩
      · omega
      · have : m' = m := by omega
        subst this
        exact hn
    · exact h4 j (by omega) hl
theorem bst_take {cs : List (Int × Int)} {low : Int} {i : Nat} {b : Int} (h : Bst cs low i b) (hl : low < (cat cs i).1) (hn : b < 0 ∨ ∃ m : Nat, b = m ∧ (cat cs i).1 < (cat cs m).1) : Bst cs low (i + 1) i := by
  refine .inr ⟨i, rfl, by omega, hl, ?_, ?_⟩
  · intro j hj hlj
    by_cases e : j = i
    · rw [e]; exact Int.le_refl _
    · rcases h with ⟨_, h2⟩ | ⟨m, h1, h2, h3, h4, _⟩
      · have := h2 j (by omega); omega
      · have := h4 j (by omega) hlj
        rcases hn with hn | ⟨m', hm, hn⟩
        · omega
        · have : m' = m := by omega
          subst this
          omega
  · intro j hj e
    rcases h with ⟨_, h2⟩ | ⟨m, h1, h2, h3, h4, _⟩
    · have := h2 j hj; omega
    · have := h4 j hj (by omega)
      rcases hn with hn | ⟨m', hm, hn⟩
      · omega
      · have : m' = m := by omega
        subst this
        omega
/-- what is listed so far -/
def Pre6 (cs : List (Int × Int)) (low : Int) (pre : List (Int × Int)) : Prop := 0 ≤ low ∧ pre.Pairwise (fun a b => a.1 < b.1) ∧ ∀ x y, (x, y) ∈ pre ↔ (0 < x ∧ x ≤ low ∧ 0 ≤ finz cs x ∧ cvl cs x = y)
theorem pre6_first (cs : List (Int × Int)) : Pre6 cs 0 [] := ⟨Int.le_refl _, List.Pairwise.nil, fun x y => ⟨fun h => (by cases h), fun h => by omega⟩⟩
theorem finz_at {cs : List (Int × Int)} {m : Nat} (hm : m < cs.length) (hn : ∀ j, j < m → (cat cs j).1 ≠ (cat cs m).1) : finz cs (cat cs m).1 = m ∧ cvl cs (cat cs m).1 = (cat cs m).2 := by
  have h := finz_hit hm rfl hn
  refine ⟨h, ?_⟩
  unfold cvl
  rw [h, if_pos (by omega), Int.toNat_natCast]
theorem pre6_more {cs : List (Int × Int)} {low : Int} {pre : List (Int × Int)} {m : Nat} (h : Pre6 cs low pre) (hm : m < cs.length) (hl : low < (cat cs m).1) (hle : ∀ j, j < cs.length → low < (cat cs j).1 → (cat cs m).1 ≤ (cat cs j).1) (hn : ∀ j, j < m → (cat cs j).1 ≠ (cat cs m).1) : Pre6 cs (cat cs m).1 (pre ++ [cat cs m]) := by
  obtain ⟨h1, h2, h3⟩ := h
  obtain ⟨f1, f2⟩ := finz_at hm hn
  refine ⟨by omega, ?_, fun x y => ?_⟩
  · rw [List.pairwise_append]
    refine ⟨h2, List.pairwise_singleton _ _, fun a ha b hb => ?_⟩
    rw [List.mem_singleton] at hb
    subst hb
    have := (h3 a.1 a.2).1 ha
    omega
  · rw [List.mem_append, List.mem_singleton, h3 x y]
    constructor
    · rintro (⟨e1, e2, e3⟩ | e)
      · exact ⟨e1, by omega, e3⟩
      · have ex : x = (cat cs m).1 := congrArg Prod.fst e
        have ey : y = (cat cs m).2 := congrArg Prod.snd e
        subst ex ey
        exact ⟨by omega, Int.le_refl _, by omega, f2⟩
    · rintro ⟨e1, e2, e3, e4⟩
      by_cases hx : x ≤ low
      · exact .inl ⟨e1, hx, e3, e4⟩
      · right
        rcases finz_cases cs x with e5 | ⟨i, e5, e6, e7⟩
        · omega
        · have := hle i e6 (by omega)
          have hxe : x = (cat cs m).1 := by omega
          have hye : y = (cat cs m).2 := by rw [← e4, hxe]; exact f2
          rw [hxe, hye]
theorem pre6_end {p : Nat} {cs : List (Int × Int)} {low : Int} {pre : List (Int × Int)} (h : Pre6 cs low pre) (hb : ∀ u, 0 ≤ finz cs u → 0 ≤ u ∧ u < (p : Int)) (hp : p ≤ 2147483647) (hle : ∀ j, j < cs.length → (cat cs j).1 ≤ low) : AscC cs pre := by
  refine ⟨h.2.1, fun x y => ?_⟩
  rw [h.2.2 x y]
  constructor
  · rintro ⟨e1, e2, e3, e4⟩
    have := hb x e3
    exact ⟨by omega, ⟨by omega, by omega⟩, e3, e4⟩
  · rintro ⟨e1, e2, e3, e4⟩
    have := hb x e3
    rcases finz_cases cs x with e5 | ⟨i, e5, e6, e7⟩
    · omega
    · have := hle i e6
      exact ⟨by omega, by omega, e3, e4⟩
theorem finz_key {cs : List (Int × Int)} {j : Nat} (hj : j < cs.length) : 0 ≤ finz cs (cat cs j).1 := by
  rcases Int.lt_or_le (finz cs (cat cs j).1) 0 with h | h
  · exfalso
    have hm : finz cs (cat cs j).1 ≠ -1 := by
      intro e
      unfold finz at e
      split at e
      · omega
      · rename_i hnone
        rw [List.findIdx?_eq_none_iff] at hnone
        have h1 := hnone cs[j] (List.getElem_mem hj)
        simp [cat, hj] at h1
    rcases finz_cases cs (cat cs j).1 with e | ⟨i, e, _⟩
    · exact hm e
    · omega
  · exact h

end Go.Proofs.YtoodjpkflcbfdaiDoor

namespace Go.Proofs.YtoodjpkflcbfdaiDoor
open Go.RowKit Go.Maps

/-- what the document's Run gives -/
def RfR (p : Nat) (size : Int) (L : List InsZ) (limit : Int) (w : World) (e : Ending) (w' : World) : Prop := Below w.heap.size w w' ∧
  if fz6 (p : Int) size L.length limit ≠ 0 then e = .returned (.tuple #[.agg #[.int .i64 0, .int .i64 0, .slice none 0 0], .int .i64 (fz6 (p : Int) size L.length limit)])
  else match mwalk p size L limit.toNat with
    | .bad z => e = .returned (.tuple #[.agg #[.int .i64 0, .int .i64 0, .slice none 0 0], .int .i64 z])
    | .good l cs => ∃ v l', e = .returned (.tuple #[.agg #[.int .i64 (outv l), .int .i64 ((l.length - 1 : Nat) : Int), v], .int .i64 0]) ∧ CelR w.heap.size w' v l' ∧ AscC cs l'

theorem mgo_cells (p : Nat) (L : List InsZ) (limit : Nat) (hp : 3 ≤ p) : ∀ (f : Nat) (k : Nat) (n : Rg) (cs1 : List (Int × Int)) (done l : List (List Int)) (cs : List (Int × Int)), mgo p L limit f (freshM cs1 n) done = .good l cs → SOk p k 0 (freshM cs1 n) → RgB p n → cs.length ≤ k + 2 * f
  | 0, _, _, _, _, _, _, h, _, _ => by simp [mgo] at h
  | f + 1, k, n, cs1, done, l, cs, h, hs, hr => by
    rw [mgo] at h
    split at h
    · cases h
    · split at h
      · cases h
      · split at h
        · cases h
        · have hso := step_ok hp hs hr (insat L (freshM cs1 n).pc.toNat).op (insat L (freshM cs1 n).pc.toNat).a (insat L (freshM cs1 n).pc.toNat).b (insat L (freshM cs1 n).pc.toNat).c
          split at h
          · injection h with h1 h2
            rw [← h2]
            have := hso.1.2.1
            omega
          · have := mgo_cells p L limit hp f (k + 2) _ _ _ l cs h ⟨hso.1.1, hso.1.2.1, fun _ => Nat.le_refl _⟩ hso.2
            omega
theorem mwalk_cells {p : Nat} {size : Int} {L : List InsZ} {limit : Nat} {l : List (List Int)} {cs : List (Int × Int)} (hp : 3 ≤ p) (h : mwalk p size L limit = .good l cs) : cs.length ≤ 1 + 2 * (limit + 1) := by
  refine mgo_cells p L limit hp _ 1 _ _ _ l cs h ⟨fun j hj => ?_, Nat.le_refl _, fun _ => Nat.le_refl _⟩ ⟨⟨Int.le_refl _, by show (0 : Int) < p; omega⟩, ⟨by show (0 : Int) ≤ 1; omega, by show (1 : Int) < p; omega⟩, emod_bounds _ p hp, ⟨Int.le_refl _, by show (0 : Int) < p; omega⟩⟩
  have : j = 0 := by simpa [freshM] using hj
  subst this
  show 0 ≤ (0 : Int) ∧ (0 : Int) < p
  omega
/-- what Walk gives, for Run -/
theorem rwalk_cases {p : Nat} {size limit : Int} {aL : Option Addr} {cL : Nat} {L : List InsZ} {w : World} (h3 : 3 ≤ p) (h4 : p ≤ 2147483647) (hn : L.length ≤ 281474976710656) (hl : LstI w.heap.size w aL cL L) (hIB : InsB L) :
    (∃ z, z ≠ 0 ∧ (∀ W, Below w.heap.size w W → Calls Tryd.prog 15 #[.int .i64 p, .agg #[.int .i64 size, .slice aL L.length cL], .int .i64 limit] W fun e W' => e = .returned (.tuple #[.slice none 0 0, .slice none 0 0, .int .i64 z]) ∧ Below W.heap.size W W') ∧
      ∀ w', Below w.heap.size w w' → RfR p size L limit w (.returned (.tuple #[.agg #[.int .i64 0, .int .i64 0, .slice none 0 0], .int .i64 z])) w') ∨
    ∃ l cs, 0 < l.length ∧ l.length ≤ 16385 ∧ cs.length ≤ 4000000 ∧ (∀ u, 0 ≤ finz cs u → 0 ≤ u ∧ u < (p : Int)) ∧ (∀ W, Below w.heap.size w W → Calls Tryd.prog 15 #[.int .i64 p, .agg #[.int .i64 size, .slice aL L.length cL], .int .i64 limit] W fun e W' => ∃ v1 v2, e = .returned (.tuple #[v1, v2, .int .i64 0]) ∧ StR W.heap.size W' v1 l ∧ CelR W.heap.size W' v2 cs ∧ Below W.heap.size W W') ∧
      ∀ w' v l', Below w.heap.size w w' → CelR w.heap.size w' v l' → AscC cs l' → RfR p size L limit w (.returned (.tuple #[.agg #[.int .i64 (outv l), .int .i64 ((l.length - 1 : Nat) : Int), v], .int .i64 0])) w' := by
  by_cases hz : fz6 (p : Int) size L.length limit ≠ 0
  · refine .inl ⟨_, hz, fun W _ => rwalk_bad p size limit aL L.length cL W hn hz, fun w' hb => ⟨hb, by rw [if_pos hz]⟩⟩
  · have hz0 : fz6 (p : Int) size L.length limit = 0 := Decidable.byContradiction hz
    have hfz : 0 ≤ size ∧ size ≤ 65536 ∧ 0 < L.length ∧ L.length ≤ 4096 ∧ L.length ≤ p ∧ 0 ≤ limit ∧ limit ≤ 16384 := by
      unfold fz6 at hz0
      split at hz0
      · omega
      · split at hz0
        · omega
        · refine ⟨by omega, by omega, by omega, by omega, by omega, by omega, by omega⟩
    obtain ⟨m, rfl⟩ := Int.eq_ofNat_of_zero_le hfz.2.2.2.2.2.1
    have hR := fun (W : World) (hb : Below w.heap.size w W) => rwalk_any p m cL size aL L W h3 h4 hfz.1 hfz.2.1 hfz.2.2.1 hfz.2.2.2.1 hfz.2.2.2.2.1 (by omega) hIB ((hl.below hb).mono hb.size)
    cases hX : mwalk p size L m with
    | bad z =>
      rw [hX] at hR
      refine .inl ⟨z, mgo_bad _ _ _ _ _ _ _ hX, fun W hb => (hR W hb).mono ?_, fun w' hb => ⟨hb, by rw [if_neg hz, Int.toNat_natCast, hX]⟩⟩
      rintro e' W' ⟨hb', he⟩
      exact ⟨he, hb'⟩
    | good l cs =>
      rw [hX] at hR
      have hln := mgo_len _ _ _ _ _ _ _ _ hX
      refine .inr ⟨l, cs, hln.1, by have := hln.2; simp at this; omega, ?_, (mwalk_once h3 hX).2.1, fun W hb => (hR W hb).mono ?_, fun w' v l' hb hc ha => ⟨hb, by rw [if_neg hz, Int.toNat_natCast, hX]; exact ⟨v, l', rfl, hc, ha⟩⟩⟩
      · have := mwalk_cells h3 hX
        omega
      · rintro e' W' ⟨hb', v1, v2, he, hs, hc⟩
        exact ⟨v1, v2, he, hs, hc, hb'⟩

theorem cnt_lt {P Q : Int × Int → Bool} : ∀ (cs : List (Int × Int)), (∀ c, P c = true → Q c = true) → (∃ c, c ∈ cs ∧ Q c = true ∧ P c = false) → cs.countP P < cs.countP Q
  | [], _, h => by obtain ⟨c, hc, _⟩ := h; cases hc
  | x :: r, hPQ, h => by
    have hle : r.countP P ≤ r.countP Q := List.countP_mono_left (fun c _ => hPQ c)
    rw [List.countP_cons, List.countP_cons]
    obtain ⟨c, hc, h1, h2⟩ := h
    rcases List.mem_cons.1 hc with rfl | hc
    · rw [h1, h2]
      simp
      omega
    · have := cnt_lt r hPQ ⟨c, hc, h1, h2⟩
      cases hP : P x with
      | true => rw [hPQ x hP]; simp; omega
      | false => simp; omega
theorem oper_append {o : Oper} {a : Act} {w w2 : World} {K : Act → World → Prop} {Q : Exit → Act → World → Prop} (s x : Operand) (tS tX : TypeId)
    (ho : o.op = .call { callee := .builtin .append, args := #[s, x], argTypes := #[tS, tX] }) (v u r : Value) (hs : a.eval s = v) (hx : a.eval x = u) (hrun : (Builtin.append_ #[tS, tX] o.type #[v, u]).run Tryd.prog w = .ok r w2)
    (h : K (a.put o.dst r) w2) : Oper.wp Tryd.prog o a w K Q := by
  unfold Oper.wp
  simp [execOp, ho, resolve, invoke, builtin, hs, hx, hrun, Result.andThen]
  exact h
/-- what stands in Run's loop -/
structure RnI (p RB : Nat) (cs : List (Int × Int)) (o : Int) (k : Nat) (low : Int) (pre : List (Int × Int)) (v : Value) (w1 wr : World) : Prop where
  pr : Pre6 cs low pre
  lt : low < (p : Int)
  r : wr.heap[RB]? = some (.cells #[.int .i64 o, .int .i64 (k : Int), v] 31 (0, 0))
  own : CelR (RB + 1) wr v pre
  bel : Below RB w1 wr
  sz : RB + 1 ≤ wr.heap.size
  len : pre.length ≤ cs.countP (fun c => decide (c.1 ≤ low))

set_option maxRecDepth 100000 in
set_option maxHeartbeats 2000000 in
theorem rrun_any (p : Nat) (size limit : Int) (aL : Option Addr) (cL : Nat) (L : List InsZ) (w : World) (h3 : 3 ≤ p) (h4 : p ≤ 2147483647) (hn : L.length ≤ 281474976710656) (hl : LstI w.heap.size w aL cL L) (hIB : InsB L) :
    Calls Tryd.prog 10 #[.int .i64 p, .agg #[.int .i64 size, .slice aL L.length cL], .int .i64 limit] w (RfR p size L limit w) := by
  have hmx : Tryd.prog.follows .mixedOrders = true := by kernel_rfl
  have HCS := hid (rwalk_cases (size := size) (limit := limit) h3 h4 hn hl hIB)
  obtain ⟨nL, hnL⟩ : ∃ nL, nL = L.length := ⟨_, rfl⟩
  rw [← hnL] at HCS ⊢
  obtain ⟨V, hV⟩ : ∃ V, V = w.alloc (.cells #[.int .i64 size, .slice aL nL cL] 24) := ⟨_, rfl⟩
  obtain ⟨W0, hW0⟩ : ∃ W0, W0 = V.alloc (.cells #[.int .i64 0, .int .i64 0, .slice none 0 0] 31) := ⟨_, rfl⟩
  have b1 : Below w.heap.size w V := by rw [hV]; exact (Below.refl _ _).alloc (Nat.le_refl _) _
  have hs : V.heap.size = w.heap.size + 1 := by rw [hV]; simp
  have b2 : Below V.heap.size V W0 := by rw [hW0]; exact (Below.refl _ _).alloc (Nat.le_refl _) _
  have hb0 := b1.trans (b2.mono b1.size)
  have hr0 : W0.heap[w.heap.size + 1]? = some (.cells #[.int .i64 0, .int .i64 0, .slice none 0 0] 31 (0, 0)) := by rw [hW0, ← hs]; exact heap_alloc_new V _
  have HB0 := hid hb0
  have HR0 := hid hr0
  rw [hV] at hW0
  clear hn hl hIB hnL b1 hs b2 hb0 hr0 hV
  go_enter Tryd.func10, Tryd.ntmps10
  go_wp2_with fail
  rw [← hW0]
  clear hW0
  rcases HCS.out with ⟨z, hz, hW, hE⟩ | ⟨l, cs, hl0, hl1, hc1, hkey, hW, hE⟩
  · refine (hW W0 HB0.out).mono ?_
    rintro e w1 ⟨rfl, hb1⟩
    have HR1 := hid ((hb1.block _ (Array.getElem?_eq_some_iff.1 HR0.out).1).trans HR0.out)
    have HB1 := hid (HB0.out.trans (hb1.mono HB0.out.size))
    have d0 : w1.cell? ⟨w.heap.size + 1, 0, none⟩ = some (.int .i64 0) := by simp [World.cell?, HR1.out]
    have d1 : w1.cell? ⟨w.heap.size + 1, 1, none⟩ = some (.int .i64 0) := by simp [World.cell?, HR1.out]
    have d2 : w1.cell? ⟨w.heap.size + 1, 2, none⟩ = some (.slice none 0 0) := by simp [World.cell?, HR1.out]
    have df := (row3_of HR1.out).frozen
    have HP3 := hid (put3_heap HR1.out (.int .i64 0) (.int .i64 0) (.slice none 0 0))
    have HE := hid (hE _ (put3_below HB1.out (Nat.le_succ _) (g := w.heap.size + 1) (.int .i64 0) (.int .i64 0) (.slice none 0 0)))
    have hzb : (z != 0) = true := by simp [hz]
    clear hE HCS hz hW hb1
    go_wp2_with fail
    (try simp only [Exit.inBlock, Exit.then])
    refine bodyPost_ret (results_ctM rfl _ _ (w.heap.size + 1) 31 #[.int .i64 0, .int .i64 0, .slice none 0 0] (0, 0) _ rfl HP3.out Tryd.underlying31 rfl (by kernel_rfl)) rfl ?_
    exact HE.out
  · have HEE := hid hE
    have HKY := hid hkey
    refine (hW W0 HB0.out).mono ?_
    rintro e w1 ⟨v1, v2, rfl, hs1, hcl1, hb1⟩
    have HR1 := hid ((hb1.block _ (Array.getElem?_eq_some_iff.1 HR0.out).1).trans HR0.out)
    have HB1 := hid (HB0.out.trans (hb1.mono HB0.out.size))
    obtain ⟨av, cv, rfl⟩ := hs1.form
    obtain ⟨g, cap, e1, _, hce⟩ := hs1.cells hl0
    injection e1 with e1 _ e3
    subst e1 e3
    obtain ⟨o, ho⟩ := stvs_int l ((l.length - 1) * 10 + 7) (by rw [hs1.1]; omega)
    have hou : outv l = o := by unfold outv; rw [ho]
    rw [hou] at HEE
    have ko := hce _ _ ho
    obtain ⟨n, hn⟩ : ∃ n, n = l.length := ⟨_, rfl⟩
    rw [← hn] at hl0 hl1 HEE ko ⊢
    obtain ⟨k, hk⟩ : ∃ k, n = k + 1 := ⟨n - 1, by omega⟩
    have hk' : n - 1 = k := by omega
    rw [hk'] at ko HEE
    obtain ⟨a2, c2, rfl⟩ := hcl1.form
    have HCL := hid hcl1
    obtain ⟨nc, hnc⟩ : ∃ nc, nc = cs.length := ⟨_, rfl⟩
    have HNC := hid hnc
    rw [← hnc] at HCL ⊢
    have HC1 : Hid (nc ≤ 4000000) := by rw [hnc]; exact hc1
    have hsub : IntKind.i64.wrap ((n : Int) - 1) = (k : Int) := by rw [IntKind.wrap_i64]; omega
    have hkl : (k : Int) < (n : Int) := by omega
    clear hE HCS hW hb1 hkey hs1 hce ho hou hn hcl1 hnc hc1 hk hk'
    go_wp2_with fail
    obtain ⟨RB, hRB⟩ : ∃ RB, RB = w1.heap.size := ⟨_, rfl⟩
    have HRB := hid hRB
    have HI0 : Hid (RnI p RB cs o k 0 [] (.slice none 0 0) w1 (w1.alloc (.cells #[.int .i64 o, .int .i64 (k : Int), .slice none 0 0] 31))) := ⟨pre6_first cs, by omega, by rw [hRB]; exact heap_alloc_new w1 _, World.ownsRow_nil _ _ _ _, by rw [hRB]; exact (Below.refl _ _).alloc (Nat.le_refl _) _, by rw [hRB]; simp, Nat.zero_le _⟩
    rw [← hRB]
    clear hRB ko hsub hkl hl1
    go_loopw [12] (fun lowv wr => ∃ (low : Int) (pre : List (Int × Int)) (v : Value), lowv = .int .i64 low ∧ Hid (RnI p RB cs o k low pre v w1 wr)) (fun lowv _ => p - (intOf lowv).toNat)
    case atStart => exact ⟨0, [], _, rfl, HI0.out⟩
    case round =>
      obtain ⟨low, pre, v, rfl, HI⟩ := hrel
      obtain ⟨wo, hwo⟩ : ∃ wo, wo = wr := ⟨_, rfl⟩
      subst hwo
      go_wp2_with fail
      have HNC0 : Hid (0 ≤ nc) := Nat.zero_le _
      have HWK : Hid (∀ m j, j < nc → ∃ g2 cap, (Value.slice a2 nc c2) = .slice (some ⟨g2, 0, none⟩) nc cap ∧ (wo.drewN m).cell? ⟨g2, j * 2, none⟩ = some (.int .i64 (cat cs j).1) ∧ (wo.drewN m).cell? ⟨g2, j * 2 + 1, none⟩ = some (.int .i64 (cat cs j).2)) := fun m j hj => by
        have hc := HCL.out
        rw [HNC.out] at hc hj ⊢
        obtain ⟨g2, cap, e1, e2, e3, e4⟩ := CelR.at hc hj
        have hbl : ∀ i u, w1.cell? ⟨g2, i, none⟩ = some u → (wo.drewN m).cell? ⟨g2, i, none⟩ = some u := fun i u hu =>
          (HI.out.bel.cell (p := ⟨g2, i, none⟩) (by rw [HRB.out]; exact World.block_lt_of_cell? _ _ hu)).trans hu
        exact ⟨g2, cap, e1, hbl _ _ e3, hbl _ _ e4⟩
      go_loopw [13, 14] (fun bv iv wr => ∃ (b : Int) (i m : Nat), bv = .int .i64 b ∧ iv = .int .i64 (i : Int) ∧ i ≤ nc ∧ Hid (Bst cs low i b) ∧ Hid (wr = wo.drewN m)) (fun _ iv _ => nc - (intOf iv).toNat)
      case atStart => exact ⟨-1, 0, 0, rfl, rfl, Nat.zero_le _, bst_first cs low, rfl⟩
      case round =>
        obtain ⟨b, i, m, rfl, rfl, hi, HBS, HW2⟩ := hrel
        by_cases hlt : i < nc
        · have hlt2 : (i : Int) < (nc : Int) := by omega
          have his : IntKind.i64.wrap ((i : Int) + 1) = (i : Int) + 1 := by have := HC1.out; rw [IntKind.wrap_i64]; omega
          obtain ⟨g2, cap2, e1, q0, _⟩ := HWK.out m i hlt
          injection e1 with e1 e2 e3
          subst e1 e3
          clear e2
          rw [← HW2.out] at q0
          obtain ⟨z, hz⟩ : ∃ z, z = (cat cs i).1 := ⟨_, rfl⟩
          have HZ := hid hz
          rw [← hz] at q0
          clear hz
          by_cases hA : low < z
          · by_cases hB : b < 0
            · have HNX : Hid (Bst cs low (i + 1) i) := bst_take HBS.out (by rw [← HZ.out]; exact hA) (.inl hB)
              go_wp2_with fail
              go_quiet (fail)
              go_wp2_with fail
              go_roundw
              case rel => exact ⟨(i : Int), i + 1, m + nq, rfl, by go_num, by omega, HNX, by unfold Hid; rw [HW2.out]; exact World.drewN_drewN _ _ _⟩
              case measure => simp [intOf]; omega
            · have hBe : ∃ m' : Nat, b = m' ∧ m' < i := by
                rcases HBS.out with ⟨h5, _⟩ | ⟨m', h5, h6, _⟩
                · omega
                · exact ⟨m', h5, h6⟩
              obtain ⟨m', rfl, hm'⟩ := hBe
              obtain ⟨g3, cap3, e1, q1, _⟩ := HWK.out m m' (by omega)
              injection e1 with e1 e2 e3
              injection e1 with e1
              injection e1 with e1
              subst e1 e3
              clear e2
              rw [← HW2.out] at q1
              obtain ⟨z2, hz2⟩ : ∃ z2, z2 = (cat cs m').1 := ⟨_, rfl⟩
              have HZ2 := hid hz2
              rw [← hz2] at q1
              clear hz2
              have hml : (m' : Int) < (nc : Int) := by omega
              by_cases hC : z < z2
              · have HNX : Hid (Bst cs low (i + 1) i) := bst_take HBS.out (by rw [← HZ.out]; exact hA) (.inr ⟨m', rfl, by rw [← HZ.out, ← HZ2.out]; exact hC⟩)
                go_wp2_with fail
                go_quiet (fail)
                go_wp2_with fail
                go_roundw
                case rel => exact ⟨(i : Int), i + 1, m + nq, rfl, by go_num, by omega, HNX, by unfold Hid; rw [HW2.out]; exact World.drewN_drewN _ _ _⟩
                case measure => simp [intOf]; omega
              · have HNX : Hid (Bst cs low (i + 1) m') := bst_skip HBS.out (.inr ⟨m', rfl, by rw [← HZ.out, ← HZ2.out]; omega⟩)
                go_wp2_with fail
                go_quiet (fail)
                go_wp2_with fail
                go_roundw
                case rel => exact ⟨(m' : Int), i + 1, m + nq, rfl, by go_num, by omega, HNX, by unfold Hid; rw [HW2.out]; exact World.drewN_drewN _ _ _⟩
                case measure => simp [intOf]; omega
          · have HNX : Hid (Bst cs low (i + 1) b) := bst_skip HBS.out (.inl (by rw [← HZ.out]; omega))
            go_wp2_with fail
            have hA' : ¬ low < z := by omega
            go_quiet (fail)
            go_wp2_with fail
            go_roundw
            case rel => exact ⟨b, i + 1, m + nq, rfl, by go_num, by omega, HNX, by unfold Hid; rw [HW2.out]; exact World.drewN_drewN _ _ _⟩
            case measure => simp [intOf]; omega
        · obtain rfl : i = nc := by omega
          have hlt2 : ¬ (i : Int) < (i : Int) := by omega
          have HB2 : Hid (Below RB w1 wr) := by unfold Hid; rw [HW2.out]; exact HI.out.bel.trans ((belM wo m).mono (by have := HI.out.sz; omega))
          have HRr : Hid (wr.heap[RB]? = some (.cells #[.int .i64 o, .int .i64 (k : Int), v] 31 (0, 0))) := by unfold Hid; rw [HW2.out]; exact HI.out.r
          rcases HBS.out with ⟨rfl, hall⟩ | ⟨m', rfl, hm', hA, hle, hne⟩
          · have hr2 := HRr.out
            have HRW : Hid (wr.heap[w.heap.size + 1]? = some (.cells #[.int .i64 0, .int .i64 0, .slice none 0 0] 31 (0, 0))) := (HB2.out.block _ (by rw [HRB.out]; exact (Array.getElem?_eq_some_iff.1 HR1.out).1)).trans HR1.out
            have HAC := hid (pre6_end HI.out.pr HKY.out h4 (fun j hj => hall j (by rw [HNC.out]; exact hj)))
            have d0 : wr.cell? ⟨w.heap.size + 1, 0, none⟩ = some (.int .i64 0) := by simp [World.cell?, HRW.out]
            have d1 : wr.cell? ⟨w.heap.size + 1, 1, none⟩ = some (.int .i64 0) := by simp [World.cell?, HRW.out]
            have d2 : wr.cell? ⟨w.heap.size + 1, 2, none⟩ = some (.slice none 0 0) := by simp [World.cell?, HRW.out]
            have df := (row3_of HRW.out).frozen
            have s0 : wr.cell? ⟨RB, 0, none⟩ = some (.int .i64 o) := by simp [World.cell?, hr2]
            have s1 : wr.cell? ⟨RB, 1, none⟩ = some (.int .i64 (k : Int)) := by simp [World.cell?, hr2]
            have s2 : wr.cell? ⟨RB, 2, none⟩ = some v := by simp [World.cell?, hr2]
            have HP3 := hid (put3_heap HRW.out (.int .i64 o) (.int .i64 (k : Int)) v)
            have hlw : w.heap.size + 1 < RB := by rw [HRB.out]; exact (Array.getElem?_eq_some_iff.1 HR1.out).1
            have hbw : Below w.heap.size w wr := HB1.out.trans (HB2.out.mono (by omega))
            have HOW : Hid (CelR (RB + 1) wr v pre) := by unfold Hid; rw [HW2.out]; exact HI.out.own
            have HEND := hid (HEE.out (((wr.setCell ⟨w.heap.size + 1, 0, none⟩ (.int .i64 o)).setCell ⟨w.heap.size + 1, 1, none⟩ (.int .i64 (k : Int))).setCell ⟨w.heap.size + 1, 2, none⟩ v) v pre (put3_below hbw (Nat.le_succ _) (g := w.heap.size + 1) _ _ _) (by
              refine ⟨HOW.out.1, ?_⟩
              rcases HOW.out.2 with hn | ⟨g', cap', cur, e1, hb', hg', rest⟩
              · exact .inl hn
              · refine .inr ⟨g', cap', cur, e1, by omega, ?_, rest⟩
                rw [Below.heap_setCell _ _ _ _ (by show g' ≠ w.heap.size + 1; omega), Below.heap_setCell _ _ _ _ (by show g' ≠ w.heap.size + 1; omega), Below.heap_setCell _ _ _ _ (by show g' ≠ w.heap.size + 1; omega)]
                exact hg') HAC.out)
            obtain ⟨av, cv', rfl⟩ := HOW.out.form
            clear hr2 hall hlw hbw HOW HAC HWK HBS
            go_wp2_with fail
            (try simp only [Exit.inBlock, Exit.then])
            refine bodyPost_ret (results_ctM rfl _ _ (w.heap.size + 1) 31 #[.int .i64 o, .int .i64 (k : Int), .slice av pre.length cv'] (0, 0) _ rfl HP3.out Tryd.underlying31 rfl (by kernel_rfl)) rfl ?_
            exact HEND.out
          · obtain ⟨g2, cap2, e1, q0, q1⟩ := HWK.out m m' hm'
            injection e1 with e1 e2 e3
            subst e1 e3
            clear e2
            rw [← HW2.out] at q0 q1
            obtain ⟨z0, hz0⟩ : ∃ z0, z0 = (cat cs m').1 := ⟨_, rfl⟩
            obtain ⟨z1, hz1⟩ : ∃ z1, z1 = (cat cs m').2 := ⟨_, rfl⟩
            have HLZ : Hid (low < z0) := by unfold Hid; rw [hz0]; exact hA
            have HZ0 := hid hz0
            have HZ1 := hid hz1
            rw [← hz0] at q0
            rw [← hz1] at q1
            have HOW : Hid (CelR (RB + 1) wr v pre) := by unfold Hid; rw [HW2.out]; exact HI.out.own
            have HPM := hid (pre6_more HI.out.pr (by rw [← HNC.out]; exact hm') hA (by rw [← HNC.out]; exact hle) hne)
            have hr2 := HRr.out
            have s0 : wr.cell? ⟨RB, 0, none⟩ = some (.int .i64 o) := by simp [World.cell?, hr2]
            have s1 : wr.cell? ⟨RB, 1, none⟩ = some (.int .i64 (k : Int)) := by simp [World.cell?, hr2]
            have s2 : wr.cell? ⟨RB, 2, none⟩ = some v := by simp [World.cell?, hr2]
            have hml : (m' : Int) < (i : Int) := by omega
            have hm0 : ¬ (m' : Int) < 0 := by omega
            clear hr2 hz0 hz1
            go_wp2_with fail
            obtain ⟨av, cv', rfl⟩ := HOW.out.form
            obtain ⟨np, hnp⟩ : ∃ np, np = pre.length := ⟨_, rfl⟩
            have HNP := hid hnp
            rw [← hnp] at s2
            have HRR2 := HRr.out
            rw [← hnp] at HRR2
            have HOX := HOW.out
            rw [← hnp] at HOX
            have HOR := hid HOX
            have HRR := hid HRR2
            clear HRR2 HOX hnp
            have hC0 : wr.drew.cell? ⟨RB, 2, none⟩ = some (.slice av np cv') ∧ wr.drew.cell? ⟨g2, m' * 2, none⟩ = some (.int .i64 z0) ∧ wr.drew.cell? ⟨g2, m' * 2 + 1, none⟩ = some (.int .i64 z1) := ⟨s2, q0, q1⟩
            refine wp_region_S (C := fun W => W.cell? ⟨RB, 2, none⟩ = some (.slice av np cv') ∧ W.cell? ⟨g2, m' * 2, none⟩ = some (.int .i64 z0) ∧ W.cell? ⟨g2, m' * 2 + 1, none⟩ = some (.int .i64 z1)) (st := [9]) hmx ?_
            refine wpAnyS_pure (i := 0) (v := .pointer (some ⟨RB, 2, none⟩)) rfl (by kernel_rfl) (by kernel_rfl) (by kernel_rfl) (by kernel_rfl) (fun _ _ _ h => h) (Or.inl ⟨by rfl, fun W _ => by go_simp⟩) (fun _ => hC0) ?_
            refine wpAnyS_take (i := 1) (v := .slice av np cv') rfl (by kernel_rfl) (by kernel_rfl) (by kernel_rfl) (by kernel_rfl) (by kernel_rfl) (by kernel_rfl) (fun _ _ _ h => h) (Or.inl ⟨by rfl, fun W hC => by (obtain ⟨x0, x1, x2⟩ := hC; go_simp)⟩) hC0 ?_
            refine wpAnyS_pure (i := 2) (v := .slice (some ⟨g2, 0, none⟩) i c2) rfl (by kernel_rfl) (by kernel_rfl) (by kernel_rfl) (by kernel_rfl) (fun _ _ _ h => h) (Or.inl ⟨by rfl, fun W _ => by go_simp⟩) (fun _ => hC0) ?_
            refine wpAnyS_pure (i := 3) (v := .int .i64 (m' : Int)) rfl (by kernel_rfl) (by kernel_rfl) (by kernel_rfl) (by kernel_rfl) (fun _ _ _ h => h) (Or.inl ⟨by rfl, fun W _ => by go_simp⟩) (fun _ => hC0) ?_
            refine wpAnyS_pure (i := 4) (v := .pointer (some ⟨g2, m' * 2, none⟩)) rfl (by kernel_rfl) (by kernel_rfl) (by kernel_rfl) (by kernel_rfl) (fun _ _ _ h => h) (Or.inl ⟨by rfl, fun W _ => by go_simp⟩) (fun _ => hC0) ?_
            refine wpAnyS_take (i := 5) (v := .agg #[.int .i64 z0, .int .i64 z1]) rfl (by kernel_rfl) (by kernel_rfl) (by kernel_rfl) (by kernel_rfl) (by kernel_rfl) (by kernel_rfl) (fun _ _ _ h => h) (Or.inl ⟨by rfl, fun W hC => by (obtain ⟨x0, x1, x2⟩ := hC; go_simp)⟩) hC0 ?_
            refine wpAnyS_one (i := 6) (by kernel_rfl) ?_
            refine wpOp_step rfl (fun K' hK' => ?_)
            rw [if_pos (by rfl)]
            go_simp
            obtain ⟨X, hX⟩ : ∃ X, X = (wr.alloc (.cells #[.int .i64 z0, .int .i64 z1] 67)).drew := ⟨_, rfl⟩
            have hbX : Below wr.heap.size wr X := by rw [hX]; exact ((Below.refl _ _).alloc (Nat.le_refl _) _).drew
            have hC1 : X.cell? ⟨RB, 2, none⟩ = some (.slice av np cv') ∧ X.cell? ⟨g2, m' * 2, none⟩ = some (.int .i64 z0) ∧ X.cell? ⟨g2, m' * 2 + 1, none⟩ = some (.int .i64 z1) := ⟨(hbX.cell (p := ⟨RB, 2, none⟩) (World.block_lt_of_cell? _ _ s2)).trans s2, (hbX.cell (p := ⟨g2, m' * 2, none⟩) (World.block_lt_of_cell? _ _ q0)).trans q0, (hbX.cell (p := ⟨g2, m' * 2 + 1, none⟩) (World.block_lt_of_cell? _ _ q1)).trans q1⟩
            rw [← hX]
            refine hK' _ _ ⟨fun _ => hC1, ?_⟩
            clear hK' K'
            have hcX : X.heap[wr.heap.size]? = some (.cells #[.int .i64 z0, .int .i64 z1] 67 (0, 0)) := by rw [hX]; exact heap_alloc_new wr _
            obtain ⟨i0, hi0, hz0, hz1, hz2⟩ := info_parts (show (Tryd.prog.info? 67).map (fun i => (i.zero, i.size, i.bytes)) = some (some (.agg #[.int .i64 0, .int .i64 0]), 2, 16) by kernel_rfl)
            have hszw : RB + 1 ≤ X.heap.size := by
              have h9 := hbX.size
              have h8 : wo.heap.size = wr.heap.size := by rw [HW2.out]; rfl
              have h7 := HI.out.sz
              omega
            have hown1 : X.ownsRow (RB + 1) 67 2 (.slice av np cv') np (celv pre) := by
              have h9 : CelR (RB + 1) X (.slice av np cv') pre := CelR.belowM HOR.out hbX
              have h8 := h9
              unfold CelR at h8
              rw [← HNP.out] at h8
              exact h8
            have hnp4 : np ≤ 4000000 := by
              have h9 := HI.out.len
              have h8 := List.countP_le_length (p := fun c : Int × Int => decide (c.1 ≤ low)) (l := cs)
              have h7 := HC1.out
              have h6 := HNC.out
              have h5 := HNP.out
              omega
            obtain ⟨v', w2, hrun, hown2, hgrow, _⟩ := run_append_own X (RB + 1) 29 29 67 i0 _ 2 16 Tryd.underlying29 hi0 hz0 hz1 hz2 rfl (by decide) (.slice av np cv') np (celv pre) hown1 ⟨wr.heap.size, 0, none⟩ 1 1 [.int .i64 z0, .int .i64 z1] rfl (by
              intro j u hj
              have hadd : (⟨wr.heap.size, 0, none⟩ : Addr).add j = ⟨wr.heap.size, j, none⟩ := by unfold Addr.add; split <;> simp_all
              rw [hadd]
              simp only [World.cell?, hcX]
              simpa using hj) (by intro u hu; simp at hu; rcases hu with rfl | rfl <;> rfl) (by unfold maxLen; omega) (by omega) hszw
            have HRUN := hid hrun
            have HOW2 := hid hown2
            have HGR := hid hgrow
            have hv' : ∃ a' c', v' = .slice a' (np + 1) c' := by
              rcases hown2.2 with ⟨_, h0⟩ | ⟨g', cap', cur, e, _⟩
              · omega
              · exact ⟨_, _, e⟩
            obtain ⟨a', c', rfl⟩ := hv'
            have hRl : RB < X.heap.size := by omega
            have hno : ∀ b, b ≤ RB → b < X.heap.size → w2.heap[b]? = X.heap[b]? := fun b hb hbl => hgrow.block b hbl (fun e => by have := (World.ownsRow.lt hown1 b e.symm).1; omega)
            have hgl : g2 < RB := by
              have h9 := HCL.out
              rw [HNC.out] at h9
              obtain ⟨g9, c9, e9, _, f9, _⟩ := CelR.at h9 (j := m') (by rw [← HNC.out]; exact hm')
              injection e9 with e9 _ _
              injection e9 with e9
              injection e9 with e9
              rw [e9, HRB.out]
              exact World.block_lt_of_cell? _ _ f9
            have t2 : w2.cell? ⟨RB, 2, none⟩ = some (.slice av np cv') := (World.cell?_of_block (w := X) (a := ⟨RB, 2, none⟩) (hno RB (Nat.le_refl _) hRl)).trans hC1.1
            have t0 : w2.cell? ⟨g2, m' * 2, none⟩ = some (.int .i64 z0) := (World.cell?_of_block (w := X) (a := ⟨g2, m' * 2, none⟩) (hno g2 (by omega) (by omega))).trans hC1.2.1
            have t1 : w2.cell? ⟨g2, m' * 2 + 1, none⟩ = some (.int .i64 z1) := (World.cell?_of_block (w := X) (a := ⟨g2, m' * 2 + 1, none⟩) (hno g2 (by omega) (by omega))).trans hC1.2.2
            have hr2 : w2.heap[RB]? = some (.cells #[.int .i64 o, .int .i64 (k : Int), .slice av np cv'] 31 (0, 0)) := (hno RB (Nat.le_refl _) hRl).trans ((hbX.block RB (Array.getElem?_eq_some_iff.1 HRR.out).1).trans HRR.out)
            have tf := (row3_of hr2).frozen
            refine wpAnyS_one (i := 7) (by kernel_rfl) ?_
            refine wpOp_step rfl (fun K' hK' => ?_)
            rw [if_pos (by rfl)]
            refine oper_append _ _ 29 29 rfl _ _ (.slice a' (np + 1) c') rfl rfl hrun ?_
            refine hK' _ _ ⟨fun _ => ⟨t2, t0, t1⟩, ?_⟩
            clear hK' K'
            refine wpAnyS_pure (i := 8) (v := .pointer (some ⟨RB, 2, none⟩)) rfl (by kernel_rfl) (by kernel_rfl) (by kernel_rfl) (by kernel_rfl) (fun _ _ _ h => h) (Or.inl ⟨by rfl, fun W _ => by go_simp⟩) (fun _ => ⟨t2, t0, t1⟩) ?_
            refine wpAnyS_one (i := 9) (by kernel_rfl) ?_
            refine wpOp_step rfl (fun K' hK' => ?_)
            rw [if_pos (by rfl)]
            go_simp
            refine hK' _ _ ⟨fun h => absurd (h 9 (by simp)) (by decide), ?_⟩
            clear hK' K'
            refine wpAnyS_done (by kernel_rfl) ?_ _
            obtain ⟨W9, hW9⟩ : ∃ W9, W9 = w2.setCell ⟨RB, 2, none⟩ (.slice a' (np + 1) c') := ⟨_, rfl⟩
            have hoth : ∀ b, b ≠ RB → W9.heap[b]? = w2.heap[b]? := fun b hb => by rw [hW9]; exact Below.heap_setCell _ _ _ _ hb
            have u0 : W9.cell? ⟨g2, m' * 2, none⟩ = some (.int .i64 z0) := (World.cell?_of_block (w := w2) (a := ⟨g2, m' * 2, none⟩) (hoth g2 (by omega))).trans t0
            have hr9 : W9.heap[RB]? = some (.cells #[.int .i64 o, .int .i64 (k : Int), .slice a' (np + 1) c'] 31 (0, 0)) := by rw [hW9]; show (w2.heap.modify RB _)[RB]? = _; rw [Array.getElem?_modify, if_pos rfl, hr2]; rfl
            have hk9 : 0 ≤ z0 ∧ z0 < (p : Int) := by rw [HZ0.out]; exact HKY.out _ (finz_key (by rw [← HNC.out]; exact hm'))
            have HNI : Hid (RnI p RB cs o k z0 (pre ++ [(z0, z1)]) (.slice a' (np + 1) c') w1 W9) := by
              have hpm := HPM.out
              have hcm : cat cs m' = (z0, z1) := by rw [HZ0.out, HZ1.out]
              rw [hcm] at hpm
              refine ⟨hpm, hk9.2, hr9, ?_, ?_, ?_, ?_⟩
              · refine ⟨?_, ?_⟩
                · rw [celv_app, List.length_append, List.length_append, celv_len]; simp [celv]; omega
                · rcases hown2.2 with ⟨_, h0⟩ | ⟨g', cap', cur, e, hb', hg', rest⟩
                  · omega
                  · refine .inr ⟨g', cap', cur, ?_, hb', (hoth g' (by omega)).trans hg', ?_⟩
                    · rw [e, List.length_append, ← HNP.out]; rfl
                    · rw [List.length_append, ← HNP.out, celv_app]; exact rest
              · have hg9 : Below RB X w2 := ⟨hgrow.os, hgrow.tape, hgrow.output, hgrow.size, fun b hb => hno b (by omega) (by omega)⟩
                have hs9 : Below RB w2 W9 := ⟨by rw [hW9]; rfl, by rw [hW9]; rfl, by rw [hW9]; rfl, by rw [hW9]; simp [World.setCell], fun b hb => hoth b (by omega)⟩
                exact ((HB2.out.trans (hbX.mono (by have := (Array.getElem?_eq_some_iff.1 HRR.out).1; omega))).trans hg9).trans hs9
              · have h9 := hgrow.size
                have h8 : W9.heap.size = w2.heap.size := by rw [hW9]; simp [World.setCell]
                omega
              · rw [List.length_append]
                have h9 := HI.out.len
                have hlz := HLZ.out
                have h8 := cnt_lt (P := fun c : Int × Int => decide (c.1 ≤ low)) (Q := fun c : Int × Int => decide (c.1 ≤ z0)) cs (fun c hc => by have := of_decide_eq_true hc; exact decide_eq_true (by omega)) ⟨(z0, z1), by rw [← hcm]; simp [cat, show m' < cs.length by rw [← HNC.out]; exact hm'], by simp, by simp; omega⟩
                have h7 : [(z0, z1)].length = 1 := rfl
                omega
            have HLO : Hid (0 ≤ low ∧ low < z0) := ⟨HI.out.pr.1, HLZ.out⟩
            rw [← hW9]
            clear hrun hown2 hgrow hown1 hi0 hz0 hz1 hz2 hcX hno t0 t1 t2 tf hr2 hC0 hC1 hbX hoth hW9 HRUN HOW2 HGR s0 s1 s2 q0 q1 hr9
            go_wp2_with fail
            go_roundw
            case rel => exact ⟨z0, _, _, rfl, HNI.out⟩
            case measure => have := HLO.out; simp [intOf]; omega

end Go.Proofs.YtoodjpkflcbfdaiDoor

namespace Go.Proofs.YtoodjpkflcbfdaiDoor
open Go.RowKit Go.Maps

/-- instructions, as they lie in memory -/
def insv : List InsZ → List Value
  | [] => []
  | x :: r => .int .i64 x.op :: .int .i64 x.a :: .int .i64 x.b :: .int .i64 x.c :: insv r
theorem insv_len : ∀ L, (insv L).length = L.length * 4
  | [] => rfl
  | c :: r => by simp [insv, insv_len r]; omega
theorem insv_at : ∀ (L : List InsZ) (j : Nat), j < L.length → (insv L)[j * 4]? = some (.int .i64 (insat L j).op) ∧ (insv L)[j * 4 + 1]? = some (.int .i64 (insat L j).a) ∧ (insv L)[j * 4 + 2]? = some (.int .i64 (insat L j).b) ∧ (insv L)[j * 4 + 3]? = some (.int .i64 (insat L j).c)
  | [], _, h => absurd h (Nat.not_lt_zero _)
  | c :: r, 0, _ => ⟨rfl, rfl, rfl, rfl⟩
  | c :: r, j + 1, h => by
    have ih := insv_at r j (by simpa using h)
    have e1 : (j + 1) * 4 = j * 4 + 4 := by omega
    rw [e1]
    exact ih
theorem insv_one : ∀ (L : List InsZ) (u : Value), u ∈ insv L → u.oneCell' = true
  | [], _, h => by cases h
  | x :: r, u, h => by
    simp only [insv, List.mem_cons] at h
    rcases h with rfl | rfl | rfl | rfl | h
    · rfl
    · rfl
    · rfl
    · rfl
    · exact insv_one r u h
/-- instructions of the call's own can be read -/
theorem lstI_of_owns {w : World} {base : Nat} {v : Value} {L : List InsZ} (h : w.ownsRow base 71 4 v L.length (insv L)) : ∃ a cap, v = .slice a L.length cap ∧ LstI w.heap.size w a cap L ∧ ∀ b o, a = some ⟨b, o, none⟩ → base ≤ b := by
  rcases h.2 with ⟨h1, h2⟩ | ⟨g, cap, cur, hv, hbs, hg, hn, _⟩
  · refine ⟨none, 0, by rw [h1, h2], ⟨fun k hk => by omega, by omega, fun _ => rfl⟩, fun b o e => by cases e⟩
  · refine ⟨some ⟨g, 0, none⟩, cap, hv, ⟨fun k hk => ⟨g, 0, rfl, (Array.getElem?_eq_some_iff.1 hg).1, ?_⟩, by omega, fun e => by cases e⟩, fun b o e => by cases e; exact hbs⟩
    have hc : ∀ m x, (insv L)[m]? = some (.int .i64 x) → w.cell? ⟨g, m, none⟩ = some (.int .i64 x) := fun m x hx => by
      have := h.cells (g := g) (by rw [hv]; rfl) m _ hx
      have hadd : (⟨g, 0, none⟩ : Addr).add m = ⟨g, m, none⟩ := by unfold Addr.add; split <;> simp_all
      rw [hadd] at this
      exact this
    obtain ⟨e0, e1, e2, e3⟩ := insv_at L k hk
    simp only [Nat.zero_add]
    exact ⟨hc _ _ e0, hc _ _ e1, hc _ _ e2, hc _ _ e3⟩
theorem div4 (j : Nat) : j = j / 4 * 4 ∨ j = j / 4 * 4 + 1 ∨ j = j / 4 * 4 + 2 ∨ j = j / 4 * 4 + 3 := by omega
/-- instructions in memory, cell by cell -/
theorem LstI.each {n0 : Nat} {w : World} {ad : Addr} {cap : Nat} {L : List InsZ} (hl : LstI n0 w (some ad) cap L) (j : Nat) (u : Value) (hu : (insv L)[j]? = some u) : ∃ b o, ad = ⟨b, o, none⟩ ∧ b < n0 ∧ w.cell? ⟨b, o + j, none⟩ = some u := by
  have hj : j < (insv L).length := by
    rcases Nat.lt_or_ge j (insv L).length with g | g
    · exact g
    · simp [g] at hu
  rw [insv_len] at hj
  have hk : j / 4 < L.length := by omega
  obtain ⟨b, o, h1, h2, c0, c1, c2, c3⟩ := hl.row (j / 4) hk
  obtain ⟨e0, e1, e2, e3⟩ := insv_at L (j / 4) hk
  cases h1
  refine ⟨b, o, rfl, h2, ?_⟩
  rcases div4 j with h | h | h | h <;> (rw [h] at hu ⊢)
  · rw [← hu, e0]; exact c0
  · rw [← hu, e1, ← Nat.add_assoc]; exact c1
  · rw [← hu, e2, ← Nat.add_assoc]; exact c2
  · rw [← hu, e3, ← Nat.add_assoc]; exact c3

theorem wpList_copyI {ops : Array Oper} {rest : List Oper} {o : Oper} {act : Act} {Q : Exit → Act → World → Prop} (w1 : World) (g : Nat) (hgs : w1.heap.size = g) (hgd : o.guard = none) (s x : Operand)
    (ho : o.op = .call { callee := .builtin .append, args := #[s, x], argTypes := #[22, 22] })
    (hs : act.eval s = .slice (some ⟨g, 0, none⟩) 0 0) (av : Option Addr) (cap : Nat) (L : List InsZ) (hx : act.eval x = .slice av L.length cap)
    (hlen : L.length ≤ 4398046511104) (hl : LstI w1.heap.size w1 av cap L)
    (h : ∀ a2 c2 w2, LstI w2.heap.size w2 a2 c2 L → Below w1.heap.size w1 w2 → w1.heap.size < w2.heap.size → (∀ b o, a2 = some ⟨b, o, none⟩ → w1.heap.size ≤ b) → wpList Tryd.prog ops Q rest (act.put o.dst (.slice a2 L.length c2)) w2) :
    wpList Tryd.prog ops Q (o :: rest) act (w1.alloc (.cells #[] 71)) := by
  subst hgs
  obtain ⟨i0, hi, hz0, hz1, hz2⟩ := info_parts (show (Tryd.prog.info? 71).map (fun i => (i.zero, i.size, i.bytes)) = some (some (.agg #[.int .i64 0, .int .i64 0, .int .i64 0, .int .i64 0]), 4, 32) by kernel_rfl)
  have hown : (w1.alloc (.cells #[] 71)).ownsRow w1.heap.size 71 4 (.slice (some ⟨w1.heap.size, 0, none⟩) 0 0) 0 [] := World.ownsRow_made (size := 4) w1 #[] 0 (Nat.le_refl _) (by unfold maxLen; omega) (by simp)
  have hb0 : Below w1.heap.size w1 (w1.alloc (.cells #[] 71)) := (Below.refl _ _).alloc (Nat.le_refl _) _
  cases av with
  | none =>
    have hc := hl.nil rfl
    have hr := hl.room
    obtain rfl : cap = 0 := hc
    obtain rfl : L = [] := List.length_eq_zero_iff.1 (by omega)
    refine wpList_append_own_none hgd s x 22 ho w1.heap.size 71 i0 4 Tryd.underlying22 hi _ _ _ hs hown hx ?_
    exact h (some ⟨w1.heap.size, 0, none⟩) 0 _ ⟨fun k hk => by simp at hk, by simp, fun e => by cases e⟩ hb0 (by simp) (fun b o e => by cases e; exact Nat.le_refl _)
  | some ad =>
    refine wpList_append_own _ hgd s x 22 ho w1.heap.size 71 i0 _ 4 32 Tryd.underlying22 hi hz0 hz1 hz2 rfl (by decide) _ _ _ hs hown ad L.length cap (insv L) hx (by rw [insv_len]) ?_ (fun u hu => insv_one L u hu) (by unfold maxLen; omega) (by omega) (by simp) ?_
    · intro j u hu
      obtain ⟨b, off, rfl, h2, h5⟩ := hl.each j u hu
      have hadd : (⟨b, off, none⟩ : Addr).add j = ⟨b, off + j, none⟩ := by unfold Addr.add; split <;> simp_all
      rw [hadd, World.cell?_alloc_lt _ _ ⟨b, off + j, none⟩ h2]
      exact h5
    · intro v' w2 hown2 hgrow _
      rw [Nat.zero_add, List.nil_append] at hown2
      have hb2 : Below w1.heap.size w1 w2 := hb0.grown hgrow (by simp) (fun k hk => (hown.lt k hk).1)
      obtain ⟨a2, c2, rfl, hl2, hge⟩ := lstI_of_owns hown2
      have hg := hgrow.size
      exact h a2 c2 w2 hl2 hb2 (by simp at hg; omega) hge
theorem neq_ins (y0 y1 y2 y3 : Int) (w : World) : (binOp BinOp.neq 71 (.agg #[.int .i64 y0, .int .i64 y1, .int .i64 y2, .int .i64 y3]) (.agg #[.int .i64 y0, .int .i64 y1, .int .i64 y2, .int .i64 y3])).run Tryd.prog w = .ok (.bool false) w := by
  simp [go_sem]

set_option maxRecDepth 100000 in
set_option maxHeartbeats 2000000 in
theorem alike_same (size : Int) (a1 a2 : Option Addr) (d1 d2 : Nat) (L : List InsZ) (w : World) (hn : L.length ≤ 281474976710656) (h1 : LstI w.heap.size w a1 d1 L) (h2 : LstI w.heap.size w a2 d2 L) :
    Calls Tryd.prog 13 #[.agg #[.int .i64 size, .slice a1 L.length d1], .agg #[.int .i64 size, .slice a2 L.length d2]] w fun e w' => e = .returned (.bool true) ∧ Below w.heap.size w w' := by
  have HS1 := hid h1.row
  have HS2 := hid h2.row
  obtain ⟨n, hn'⟩ : ∃ n, n = L.length := ⟨_, rfl⟩
  rw [← hn'] at hn HS1 HS2 ⊢
  have HN := hid hn
  clear h1 h2 hn'
  obtain ⟨V, hV⟩ : ∃ V, V = w.alloc (.cells #[.int .i64 size, .slice a1 n d1] 24) := ⟨_, rfl⟩
  obtain ⟨W0, hW0⟩ : ∃ W0, W0 = V.alloc (.cells #[.int .i64 size, .slice a2 n d2] 24) := ⟨_, rfl⟩
  have b1 : Below w.heap.size w V := by rw [hV]; exact (Below.refl _ _).alloc (Nat.le_refl _) _
  have hs : V.heap.size = w.heap.size + 1 := by rw [hV]; simp
  have b2 : Below V.heap.size V W0 := by rw [hW0]; exact (Below.refl _ _).alloc (Nat.le_refl _) _
  have HB0 := hid (b1.trans (b2.mono b1.size))
  have hr1 : W0.heap[w.heap.size]? = some (.cells #[.int .i64 size, .slice a1 n d1] 24 (0, 0)) := (b2.block _ (by omega)).trans (by rw [hV]; exact heap_alloc_new w _)
  have hr2 : W0.heap[w.heap.size + 1]? = some (.cells #[.int .i64 size, .slice a2 n d2] 24 (0, 0)) := by rw [hW0, ← hs]; exact heap_alloc_new V _
  have x0 : W0.cell? ⟨w.heap.size, 0, none⟩ = some (.int .i64 size) := by simp [World.cell?, hr1]
  have x1 : W0.cell? ⟨w.heap.size, 1, none⟩ = some (.slice a1 n d1) := by simp [World.cell?, hr1]
  have y0 : W0.cell? ⟨w.heap.size + 1, 0, none⟩ = some (.int .i64 size) := by simp [World.cell?, hr2]
  have y1 : W0.cell? ⟨w.heap.size + 1, 1, none⟩ = some (.slice a2 n d2) := by simp [World.cell?, hr2]
  have q0 : (size != size) = false := by simp
  have q2 : ((n : Int) != (n : Int)) = false := by simp
  rw [hV] at hW0
  clear b1 hs b2 hr1 hr2 hV hn
  have HX1 := hid x1
  have HY1 := hid y1
  go_enter Tryd.func13, Tryd.ntmps13
  go_wp2_with fail
  rw [← hW0]
  clear hW0 x0 x1 y0 y1 q0 q2
  go_loopw [5] (fun u wr => ∃ (i m : Nat), i ≤ n ∧ u = .int .i64 (i : Int) ∧ Hid (wr = W0.drewN m)) (fun u _ => n - (intOf u).toNat)
  case atStart => exact ⟨0, 0, Nat.zero_le _, rfl, rfl⟩
  case round =>
    obtain ⟨i, m, hi, rfl, HWr⟩ := hrel
    have x1 : wr.cell? ⟨w.heap.size, 1, none⟩ = some (.slice a1 n d1) := by rw [HWr.out]; exact HX1.out
    have y1 : wr.cell? ⟨w.heap.size + 1, 1, none⟩ = some (.slice a2 n d2) := by rw [HWr.out]; exact HY1.out
    by_cases hlt : i < n
    · have hlt2 : (i : Int) < (n : Int) := by omega
      have hmx2 := HN.out
      have his : IntKind.i64.wrap ((i : Int) + 1) = (i : Int) + 1 := by rw [IntKind.wrap_i64]; omega
      have hbb : Below w.heap.size w wr := by rw [HWr.out]; exact HB0.out.trans ((belM W0 m).mono HB0.out.size)
      obtain ⟨g1, o1, rfl, l1, p0, p1, p2, p3⟩ := HS1.out i hlt
      obtain ⟨g2, o2, rfl, l2, r0, r1, r2, r3⟩ := HS2.out i hlt
      replace p0 := (hbb.cell (p := ⟨g1, o1 + i * 4, none⟩) l1).trans p0
      replace p1 := (hbb.cell (p := ⟨g1, o1 + i * 4 + 1, none⟩) l1).trans p1
      replace p2 := (hbb.cell (p := ⟨g1, o1 + i * 4 + 2, none⟩) l1).trans p2
      replace p3 := (hbb.cell (p := ⟨g1, o1 + i * 4 + 3, none⟩) l1).trans p3
      replace r0 := (hbb.cell (p := ⟨g2, o2 + i * 4, none⟩) l2).trans r0
      replace r1 := (hbb.cell (p := ⟨g2, o2 + i * 4 + 1, none⟩) l2).trans r1
      replace r2 := (hbb.cell (p := ⟨g2, o2 + i * 4 + 2, none⟩) l2).trans r2
      replace r3 := (hbb.cell (p := ⟨g2, o2 + i * 4 + 3, none⟩) l2).trans r3
      generalize (insat L i).op = z0 at p0 r0
      generalize (insat L i).a = z1 at p1 r1
      generalize (insat L i).b = z2 at p2 r2
      generalize (insat L i).c = z3 at p3 r3
      have hneq := neq_ins z0 z1 z2 z3
      clear hbb l1 l2 hmx2
      go_wp2_with fail
      go_quiet (fail)
      go_wp2_with fail
      go_roundw
      case rel => exact ⟨i + 1, m + nq, by omega, by go_num, by unfold Hid; rw [HWr.out]; exact World.drewN_drewN _ _ _⟩
      case measure => simp [intOf]; omega
    · obtain rfl : i = n := by omega
      have hlt2 : ¬ (i : Int) < (i : Int) := by omega
      go_wp2_with fail
      go_ret
      exact ⟨rfl, by rw [HWr.out]; exact HB0.out.trans ((belM W0 m).mono HB0.out.size)⟩

end Go.Proofs.YtoodjpkflcbfdaiDoor

namespace Go.Proofs.YtoodjpkflcbfdaiDoor
open Go.RowKit Go.Maps

theorem row2_of {W : World} {g : Nat} {t : TypeId} {a b : Value} (h : W.heap[g]? = some (.cells #[a, b] t (0, 0))) : W.rowIs g t 2 (fun i => #[a, b].getD i .nilFunc) :=
  ⟨_, h, rfl, fun i hi => by
    have : i = 0 ∨ i = 1 := by omega
    rcases this with rfl | rfl <;> rfl⟩
theorem row2_arr {W : World} {g : Nat} {t : TypeId} {f : Nat → Value} (h : W.rowIs g t 2 f) : W.heap[g]? = some (.cells #[f 0, f 1] t (0, 0)) := by
  obtain ⟨c, hb, hs, hc⟩ := h
  rw [hb]
  congr 2
  apply Array.ext
  · simpa using hs
  · intro i h1 h2
    have h4 : i < 2 := by simpa using h2
    have := hc i h4
    rw [Array.getElem?_eq_getElem h1] at this
    injection this with this
    rw [this]
    have : i = 0 ∨ i = 1 := by omega
    rcases this with rfl | rfl <;> rfl
theorem put2_heap {W : World} {g : Nat} {t : TypeId} {z0 z1 : Value} (h : W.heap[g]? = some (.cells #[z0, z1] t (0, 0))) (a b : Value) : ((W.setCell ⟨g, 0, none⟩ a).setCell ⟨g, 1, none⟩ b).heap[g]? = some (.cells #[a, b] t (0, 0)) := by
  have := row2_arr (((row2_of h).set 0 a).set 1 b)
  simpa using this
theorem put2_below {N : Nat} {w W : World} {g : Nat} (e : Below N w W) (hg : N ≤ g) (a b : Value) : Below N w ((W.setCell ⟨g, 0, none⟩ a).setCell ⟨g, 1, none⟩ b) :=
  ⟨e.os, e.tape, e.output, by simpa [World.setCell] using e.size, fun k hk => by
    rw [Below.heap_setCell _ _ _ _ (by show k ≠ g; omega), Below.heap_setCell _ _ _ _ (by show k ≠ g; omega)]
    exact e.block k hk⟩
theorem lstI_put2 {W : World} {n0 g : Nat} {a : Option Addr} {cap : Nat} {L : List InsZ} (x y : Value) (h : LstI n0 W a cap L) (hg : ∀ b o, a = some ⟨b, o, none⟩ → b ≠ g) : LstI n0 ((W.setCell ⟨g, 0, none⟩ x).setCell ⟨g, 1, none⟩ y) a cap L := by
  refine ⟨fun k hk => ?_, h.room, h.nil⟩
  obtain ⟨b, o, h1, h2, c0, c1, c2, c3⟩ := h.row k hk
  have hne := hg b o h1
  have hc : ∀ i v, W.cell? ⟨b, i, none⟩ = some v → ((W.setCell ⟨g, 0, none⟩ x).setCell ⟨g, 1, none⟩ y).cell? ⟨b, i, none⟩ = some v := fun i v hv => by
    unfold World.cell? at hv ⊢
    rw [Below.heap_setCell _ _ _ _ (by show b ≠ g; omega), Below.heap_setCell _ _ _ _ (by show b ≠ g; omega)]
    exact hv
  exact ⟨b, o, h1, h2, hc _ _ c0, hc _ _ c1, hc _ _ c2, hc _ _ c3⟩

set_option maxRecDepth 100000 in
set_option maxHeartbeats 2000000 in
theorem copied_any (size : Int) (aL : Option Addr) (cL : Nat) (L : List InsZ) (w : World) (hn : L.length ≤ 4398046511104) (hl : LstI w.heap.size w aL cL L) :
    Calls Tryd.prog 8 #[.agg #[.int .i64 size, .slice aL L.length cL]] w fun e w' => ∃ a2 c2, e = .returned (.agg #[.int .i64 size, .slice a2 L.length c2]) ∧ LstI w'.heap.size w' a2 c2 L ∧ Below w.heap.size w w' := by
  obtain ⟨V, hV⟩ : ∃ V, V = w.alloc (.cells #[.int .i64 size, .slice aL L.length cL] 24) := ⟨_, rfl⟩
  obtain ⟨W0, hW0⟩ : ∃ W0, W0 = V.alloc (.cells #[.int .i64 0, .slice none 0 0] 24) := ⟨_, rfl⟩
  have b1 : Below w.heap.size w V := by rw [hV]; exact (Below.refl _ _).alloc (Nat.le_refl _) _
  have hs : V.heap.size = w.heap.size + 1 := by rw [hV]; simp
  have b2 : Below V.heap.size V W0 := by rw [hW0]; exact (Below.refl _ _).alloc (Nat.le_refl _) _
  have hsz : W0.heap.size = w.heap.size + 2 := by rw [hW0]; simp; omega
  have HB0 := hid (b1.trans (b2.mono b1.size))
  have hr1 : W0.heap[w.heap.size]? = some (.cells #[.int .i64 size, .slice aL L.length cL] 24 (0, 0)) := (b2.block _ (by omega)).trans (by rw [hV]; exact heap_alloc_new w _)
  have hr2 : W0.heap[w.heap.size + 1]? = some (.cells #[.int .i64 0, .slice none 0 0] 24 (0, 0)) := by rw [hW0, ← hs]; exact heap_alloc_new V _
  have HR1 := hid hr1
  have HR2 := hid hr2
  have HSZ := hid hsz
  have HL0 : Hid (LstI W0.heap.size W0 aL cL L) := (hl.below HB0.out).mono HB0.out.size
  have HN := hid hn
  have x1 : ∀ o, (W0.alloc o).cell? ⟨w.heap.size, 1, none⟩ = some (.slice aL L.length cL) := fun o => (((Below.refl W0.heap.size W0).alloc (Nat.le_refl _) o).cell (p := ⟨w.heap.size, 1, none⟩) (by show w.heap.size < W0.heap.size; omega)).trans (by simp [World.cell?, hr1])
  rw [hV] at hW0
  clear b1 hs b2 hr1 hr2 hV hl hn hsz
  replace hW0 := hW0.symm
  have hsw : W0.heap.size = w.heap.size + 1 + 1 := HSZ.out
  go_enter Tryd.func8, Tryd.ntmps8
  go_wp2_with (at_builtin; refine wpList_copyI W0 _ HSZ.out rfl _ _ rfl rfl aL cL L rfl HN.out HL0.out ?_; intro a2 c2 w2 hl2 hb2 hlt2 hge; have HGE := hid hge; clear hge; clear x1 hsw; have HL2 := hid hl2; have HB2 := hid hb2; have HQ1 := hid ((hb2.block w.heap.size (by have := HSZ.out; omega)).trans HR1.out); have HQ2 := hid ((hb2.block (w.heap.size + 1) (by have := HSZ.out; omega)).trans HR2.out); have y0 : w2.cell? ⟨w.heap.size, 0, none⟩ = some (.int .i64 size) := (by simp [World.cell?, HQ1.out]); have z0 : w2.cell? ⟨w.heap.size + 1, 0, none⟩ = some (.int .i64 0) := (by simp [World.cell?, HQ2.out]); have z1 : w2.cell? ⟨w.heap.size + 1, 1, none⟩ = some (.slice none 0 0) := (by simp [World.cell?, HQ2.out]); have df := (row2_of HQ2.out).frozen; clear hl2 hb2)
  have HP2 := hid (put2_heap HQ2.out (.int .i64 size) (.slice a2 L.length c2))
  refine bodyPost_ret (results_cell_row rfl _ _ (w.heap.size + 1) 24 #[.int .i64 size, .slice a2 L.length c2] (0, 0) _ rfl HP2.out Tryd.underlying24 rfl (by kernel_rfl)) rfl ?_
  have hb := HB0.out.trans (HB2.out.mono HB0.out.size)
  refine ⟨a2, c2, rfl, ?_, put2_below hb (Nat.le_succ _) _ _⟩
  have h5 := lstI_put2 (g := w.heap.size + 1) (.int .i64 size) (.slice a2 L.length c2) HL2.out (fun b o e => by have := HGE.out b o e; have := HSZ.out; omega)
  exact h5.mono (by simp [World.setCell])
/-- what the program's Run gives, the document's gives -/
theorem runs_both {p : Nat} {size limit : Int} {L : List InsZ} {w1 w2 : World} {e : Ending} (h : RuR p size L limit w1 e w2) :
    ∃ (o k : Int) (v : Value) (l' : List (Int × Int)) (z : Int), e = .returned (.tuple #[.agg #[.int .i64 o, .int .i64 k, v], errV z]) ∧ CelR w1.heap.size w2 v l' ∧ Below w1.heap.size w1 w2 ∧
      ∀ W e' W', RfR p size L limit W e' W' → ∃ v2, e' = .returned (.tuple #[.agg #[.int .i64 o, .int .i64 k, v2], .int .i64 z]) ∧ CelR W.heap.size W' v2 l' ∧ Below W.heap.size W W' := by
  obtain ⟨hb, h2⟩ := h
  by_cases hz : fz6 (p : Int) size L.length limit ≠ 0
  · rw [if_pos hz] at h2
    refine ⟨0, 0, _, [], _, h2, World.ownsRow_nil _ _ _ _, hb, fun W e' W' h' => ?_⟩
    obtain ⟨hb', h3⟩ := h'
    rw [if_pos hz] at h3
    exact ⟨_, h3, World.ownsRow_nil _ _ _ _, hb'⟩
  · rw [if_neg hz] at h2
    cases hX : mwalk p size L limit.toNat with
    | bad z =>
      rw [hX] at h2
      refine ⟨0, 0, _, [], z, h2, World.ownsRow_nil _ _ _ _, hb, fun W e' W' h' => ?_⟩
      obtain ⟨hb', h3⟩ := h'
      rw [if_neg hz, hX] at h3
      exact ⟨_, h3, World.ownsRow_nil _ _ _ _, hb'⟩
    | good l cs =>
      rw [hX] at h2
      obtain ⟨v, l', he, hc, ha⟩ := h2
      refine ⟨_, _, v, l', 0, he, hc, hb, fun W e' W' h' => ?_⟩
      obtain ⟨hb', h3⟩ := h'
      rw [if_neg hz, hX] at h3
      obtain ⟨v2, l2, he2, hc2, ha2⟩ := h3
      obtain rfl := ha2.unique ha
      exact ⟨v2, he2, hc2, hb'⟩

end Go.Proofs.YtoodjpkflcbfdaiDoor

namespace Go.Proofs.YtoodjpkflcbfdaiDoor
open Go.RowKit Go.Maps

set_option maxRecDepth 100000 in
set_option maxHeartbeats 4000000 in
/-- where there is a field -/
theorem mruns_yes (SO : SrtAs) (q : Nat) (size limit : Int) (aL : Option Addr) (cL : Nat) (L : List InsZ) (w : World) (hL : Laid w) (h3 : 3 ≤ q) (h4 : q ≤ 2147483647) (hpr : Num.Prime q) (hn : L.length ≤ 4398046511104) (hl : LstI w.heap.size w aL cL L) (hIB : InsB L) :
    Calls Tryd.prog 3 #[.int .i64 q, .agg #[.int .i64 size, .slice aL L.length cL], .int .i64 limit] w fun e w' => e = .returned (.bool true) ∧ Below w.heap.size w w' := by
  obtain ⟨W0, hW0⟩ : ∃ W0, W0 = w.alloc (.cells #[.int .i64 size, .slice aL L.length cL] 24) := ⟨_, rfl⟩
  have hb0 : Below w.heap.size w W0 := by rw [hW0]; exact (Below.refl _ _).alloc (Nat.le_refl _) _
  have HC0 : Hid (W0.heap[w.heap.size]? = some (.cells #[.int .i64 size, .slice aL L.length cL] 24 (0, 0))) := by unfold Hid; rw [hW0]; exact heap_alloc_new w _
  have HB0 := hid hb0
  have HF := hid (field_yes q W0 h3 h4 hpr)
  have HCP := hid (fun (W : World) (hb : Below w.heap.size w W) => copied_any size aL cL L W hn ((hl.below hb).mono hb.size))
  have HRW := hid (fun (b : Nat) (a2 : Option Addr) (c2 : Nat) (W : World) (hlW : LstI W.heap.size W a2 c2 L) (hc : W.cell? ⟨b, 0, none⟩ = some (.int .i64 q)) => prun_any SO q b size limit a2 c2 L W h3 h4 hpr hc (by omega) hlW hIB)
  have HRF := hid (fun (W : World) (hb : Below w.heap.size w W) => rrun_any q size limit aL cL L W h3 h4 (by omega) ((hl.below hb).mono hb.size) hIB)
  have HBO := hid (fun (w1 w2 : World) (e : Ending) (h : RuR q size L limit w1 e w2) => runs_both h)
  have HAL := hid (fun (a1 : Option Addr) (d1 : Nat) (W : World) (hb : Below w.heap.size w W) (h1 : LstI W.heap.size W a1 d1 L) => alike_same size a1 aL d1 cL L W (by omega) h1 ((hl.below hb).mono hb.size))
  have HLD := hid hL
  obtain ⟨nL, hnL⟩ : ∃ nL, nL = L.length := ⟨_, rfl⟩
  rw [← hnL] at HC0 hW0 HCP HRW HRF HAL ⊢
  clear hb0 hl hL hIB hpr hn SO hnL
  go_enter Tryd.func3, Tryd.ntmps3
  go_wp2_with fail
  rw [← hW0]
  refine HF.out.mono ?_
  rintro e w1 ⟨rfl, hc1, hb1, hlt1⟩
  have HB1 := hid (HB0.out.trans (hb1.mono HB0.out.size))
  have HC1 := hid ((hb1.block _ (Array.getElem?_eq_some_iff.1 HC0.out).1).trans HC0.out)
  have k0 : w1.cell? ⟨w.heap.size, 0, none⟩ = some (.int .i64 size) := by simp [World.cell?, HC1.out]
  have k1 : w1.cell? ⟨w.heap.size, 1, none⟩ = some (.slice aL nL cL) := by simp [World.cell?, HC1.out]
  have HK1 := hid hc1
  clear hb1 HB0 HC0 HF hW0 hc1 hlt1
  go_wp2_with fail
  refine (HCP.out w1 HB1.out).mono ?_
  rintro e w2 ⟨a2, c2, rfl, hl2, hb2⟩
  have HB2 := hid (HB1.out.trans (hb2.mono HB1.out.size))
  have HC2 := hid ((hb2.block _ (Array.getElem?_eq_some_iff.1 HC1.out).1).trans HC1.out)
  have HK2 := hid ((hb2.cell (p := ⟨W0.heap.size, 0, none⟩) (World.block_lt_of_cell? _ _ HK1.out)).trans HK1.out)
  have HL2 := hid hl2
  obtain ⟨W2, hW2⟩ : ∃ W2, W2 = w2.alloc (.cells #[.int .i64 size, .slice a2 nL c2] 24) := ⟨_, rfl⟩
  have hbb : Below w2.heap.size w2 W2 := by rw [hW2]; exact (Below.refl _ _).alloc (Nat.le_refl _) _
  have HO3 : Hid (W2.heap[w2.heap.size]? = some (.cells #[.int .i64 size, .slice a2 nL c2] 24 (0, 0))) := by unfold Hid; rw [hW2]; exact heap_alloc_new w2 _
  have HB3 := hid (HB2.out.trans (hbb.mono HB2.out.size))
  have HC3 := hid ((hbb.block _ (Array.getElem?_eq_some_iff.1 HC2.out).1).trans HC2.out)
  have HK3 := hid ((hbb.cell (p := ⟨W0.heap.size, 0, none⟩) (World.block_lt_of_cell? _ _ HK2.out)).trans HK2.out)
  have HL3 : Hid (LstI W2.heap.size W2 a2 c2 L) := (HL2.out.below hbb).mono hbb.size
  clear hb2 hl2 HB1 HC1 HK1 k0 k1 HCP hbb HB2 HC2 HK2 HL2
  have j0 : W2.cell? ⟨w2.heap.size, 0, none⟩ = some (.int .i64 size) := by simp [World.cell?, HO3.out]
  have j1 : W2.cell? ⟨w2.heap.size, 1, none⟩ = some (.slice a2 nL c2) := by simp [World.cell?, HO3.out]
  replace hW2 := hW2.symm
  go_wp2_with fail
  clear hW2 j0 j1
  refine (HRW.out W0.heap.size a2 c2 W2 HL3.out HK3.out).mono ?_
  intro e w4 hr4
  obtain ⟨o, k, v, l', z, rfl, hc4, hb4, hfor⟩ := HBO.out _ _ _ hr4
  obtain ⟨a4, c4, rfl⟩ := hc4.form
  have HFO := hid hfor
  have HCL4 := hid hc4
  have HB4 := hid (HB3.out.trans (hb4.mono HB3.out.size))
  have HC4 := hid ((hb4.block _ (Array.getElem?_eq_some_iff.1 HC3.out).1).trans HC3.out)
  have HO4 := hid ((hb4.block _ (Array.getElem?_eq_some_iff.1 HO3.out).1).trans HO3.out)
  have HL4 : Hid (LstI w4.heap.size w4 a2 c2 L) := (HL3.out.below hb4).mono hb4.size
  obtain ⟨n4, hn4⟩ : ∃ n4, n4 = l'.length := ⟨_, rfl⟩
  have HN4 := hid hn4
  rw [← hn4] at HCL4 ⊢
  clear hr4 hfor hc4 hb4 hn4 HB3 HC3 HO3 HL3 HK3 HRW HBO
  obtain ⟨W4, hW4⟩ : ∃ W4, W4 = w4.alloc (.cells #[.int .i64 o, .int .i64 k, .slice a4 n4 c4] 31) := ⟨_, rfl⟩
  have hbb : Below w4.heap.size w4 W4 := by rw [hW4]; exact (Below.refl _ _).alloc (Nat.le_refl _) _
  have HA5 : Hid (W4.heap[w4.heap.size]? = some (.cells #[.int .i64 o, .int .i64 k, .slice a4 n4 c4] 31 (0, 0))) := by unfold Hid; rw [hW4]; exact heap_alloc_new w4 _
  have HB5 := hid (HB4.out.trans (hbb.mono HB4.out.size))
  have HC5 := hid ((hbb.block _ (Array.getElem?_eq_some_iff.1 HC4.out).1).trans HC4.out)
  have HO5 := hid ((hbb.block _ (Array.getElem?_eq_some_iff.1 HO4.out).1).trans HO4.out)
  have HL5 : Hid (LstI W4.heap.size W4 a2 c2 L) := (HL4.out.below hbb).mono hbb.size
  have HCL5 := hid (HCL4.out.belowM hbb)
  have k0 : W4.cell? ⟨w.heap.size, 0, none⟩ = some (.int .i64 size) := by simp [World.cell?, HC5.out]
  have k1 : W4.cell? ⟨w.heap.size, 1, none⟩ = some (.slice aL nL cL) := by simp [World.cell?, HC5.out]
  clear hbb HB4 HC4 HO4 HL4 HCL4
  replace hW4 := hW4.symm
  go_wp2_with fail
  clear hW4 k0 k1
  refine (HRF.out W4 HB5.out).mono ?_
  intro e w6 hr6
  obtain ⟨v6, rfl, hc6, hb6⟩ := HFO.out _ _ _ hr6
  obtain ⟨a6, c6, rfl⟩ := hc6.form
  have HCL6 := hid hc6
  rw [← HN4.out] at HCL6 ⊢
  have HB6 := hid (HB5.out.trans (hb6.mono HB5.out.size))
  have HC6 := hid ((hb6.block _ (Array.getElem?_eq_some_iff.1 HC5.out).1).trans HC5.out)
  have HO6 := hid ((hb6.block _ (Array.getElem?_eq_some_iff.1 HO5.out).1).trans HO5.out)
  have HA6 := hid ((hb6.block _ (Array.getElem?_eq_some_iff.1 HA5.out).1).trans HA5.out)
  have HL6 : Hid (LstI w6.heap.size w6 a2 c2 L) := (HL5.out.below hb6).mono hb6.size
  have HCK6 := hid (HCL5.out.belowM hb6)
  clear hr6 hc6 hb6 HFO HRF HB5 HC5 HO5 HA5 HL5 HCL5
  obtain ⟨W6, hW6⟩ : ∃ W6, W6 = w6.alloc (.cells #[.int .i64 o, .int .i64 k, .slice a6 n4 c6] 31) := ⟨_, rfl⟩
  have hbb : Below w6.heap.size w6 W6 := by rw [hW6]; exact (Below.refl _ _).alloc (Nat.le_refl _) _
  have HD7 : Hid (W6.heap[w6.heap.size]? = some (.cells #[.int .i64 o, .int .i64 k, .slice a6 n4 c6] 31 (0, 0))) := by unfold Hid; rw [hW6]; exact heap_alloc_new w6 _
  have HB7 := hid (HB6.out.trans (hbb.mono HB6.out.size))
  have HC7 := hid ((hbb.block _ (Array.getElem?_eq_some_iff.1 HC6.out).1).trans HC6.out)
  have HO7 := hid ((hbb.block _ (Array.getElem?_eq_some_iff.1 HO6.out).1).trans HO6.out)
  have HA7 := hid ((hbb.block _ (Array.getElem?_eq_some_iff.1 HA6.out).1).trans HA6.out)
  have HL7 : Hid (LstI W6.heap.size W6 a2 c2 L) := (HL6.out.below hbb).mono hbb.size
  have HCK7 := hid (HCK6.out.belowM hbb)
  have HCL7 := hid (HCL6.out.belowM hbb)
  have HER := hid (error_same z W6 (HLD.out.below HB7.out))
  clear hbb HB6 HC6 HO6 HA6 HL6 HCK6 HCL6
  replace hW6 := hW6.symm
  go_wp2_with fail
  clear hW6
  refine HER.out.mono ?_
  rintro e w8 ⟨rfl, hb8⟩
  have HB8 := hid (HB7.out.trans (hb8.mono HB7.out.size))
  have HC8 := hid ((hb8.block _ (Array.getElem?_eq_some_iff.1 HC7.out).1).trans HC7.out)
  have HO8 := hid ((hb8.block _ (Array.getElem?_eq_some_iff.1 HO7.out).1).trans HO7.out)
  have HA8 := hid ((hb8.block _ (Array.getElem?_eq_some_iff.1 HA7.out).1).trans HA7.out)
  have HD8 := hid ((hb8.block _ (Array.getElem?_eq_some_iff.1 HD7.out).1).trans HD7.out)
  have HL8 : Hid (LstI w8.heap.size w8 a2 c2 L) := (HL7.out.below hb8).mono hb8.size
  have HCK8 := hid (HCK7.out.belowM hb8)
  have HCL8 := hid (HCL7.out.belowM hb8)
  have HRS := hid (rans_same o k _ _ _ _ l' w8 HCK8.out HCL8.out)
  have i2 : w8.cell? ⟨w4.heap.size, 0, none⟩ = some (.int .i64 o) := by simp [World.cell?, HA8.out]
  have i3 : w8.cell? ⟨w4.heap.size, 1, none⟩ = some (.int .i64 k) := by simp [World.cell?, HA8.out]
  have i4 : w8.cell? ⟨w4.heap.size, 2, none⟩ = some (.slice a4 n4 c4) := by simp [World.cell?, HA8.out]
  have i5 : w8.cell? ⟨w6.heap.size, 0, none⟩ = some (.int .i64 o) := by simp [World.cell?, HD8.out]
  have i6 : w8.cell? ⟨w6.heap.size, 1, none⟩ = some (.int .i64 k) := by simp [World.cell?, HD8.out]
  have i7 : w8.cell? ⟨w6.heap.size, 2, none⟩ = some (.slice a6 n4 c6) := by simp [World.cell?, HD8.out]
  clear hb8 HER HB7 HC7 HO7 HA7 HD7 HL7 HCK7 HCL7
  go_wp2_with fail
  clear i2 i3 i4 i5 i6 i7
  refine HRS.out.mono ?_
  rintro e w9 ⟨rfl, hb9⟩
  have HB9 := hid (HB8.out.trans (hb9.mono HB8.out.size))
  have HC9 := hid ((hb9.block _ (Array.getElem?_eq_some_iff.1 HC8.out).1).trans HC8.out)
  have HO9 := hid ((hb9.block _ (Array.getElem?_eq_some_iff.1 HO8.out).1).trans HO8.out)
  have HL9 : Hid (LstI w9.heap.size w9 a2 c2 L) := (HL8.out.below hb9).mono hb9.size
  have k0 : w9.cell? ⟨w.heap.size, 0, none⟩ = some (.int .i64 size) := by simp [World.cell?, HC9.out]
  have k1 : w9.cell? ⟨w.heap.size, 1, none⟩ = some (.slice aL nL cL) := by simp [World.cell?, HC9.out]
  have k2 : w9.cell? ⟨w2.heap.size, 0, none⟩ = some (.int .i64 size) := by simp [World.cell?, HO9.out]
  have k3 : w9.cell? ⟨w2.heap.size, 1, none⟩ = some (.slice a2 nL c2) := by simp [World.cell?, HO9.out]
  clear hb9 HRS HB8 HC8 HO8 HA8 HD8 HL8 HCK8 HCL8
  go_wp2_with fail
  clear k0 k1 k2 k3
  refine (HAL.out a2 c2 w9 HB9.out HL9.out).mono ?_
  rintro e w10 ⟨rfl, hb10⟩
  have HB10 := hid (HB9.out.trans (hb10.mono HB9.out.size))
  clear hb10
  go_wp2_with fail
  go_ret
  exact ⟨rfl, HB10.out⟩

set_option maxRecDepth 100000 in
theorem mruns_any (SO : SrtAs) (p size limit : Int) (aL : Option Addr) (cL : Nat) (L : List InsZ) (w : World) (hL : Laid w) (hp1 : -9223372036854775808 ≤ p) (hp2 : p ≤ 9223372036854775807) (hn : L.length ≤ 4398046511104) (hl : LstI w.heap.size w aL cL L) (hIB : InsB L) :
    Calls Tryd.prog 3 #[.int .i64 p, .agg #[.int .i64 size, .slice aL L.length cL], .int .i64 limit] w fun e w' => e = .returned (.bool true) ∧ Below w.heap.size w w' := by
  by_cases hok : okPrime p
  · obtain ⟨q, rfl⟩ := Int.eq_ofNat_of_zero_le (show 0 ≤ p by have := hok.1; omega)
    obtain ⟨h3, h4, hpr⟩ := hok
    rw [Int.toNat_natCast] at hpr
    exact mruns_yes SO q size limit aL cL L w hL (by omega) (by omega) hpr hn hl hIB
  · obtain ⟨W0, hW0⟩ : ∃ W0, W0 = w.alloc (.cells #[.int .i64 size, .slice aL L.length cL] 24) := ⟨_, rfl⟩
    have hb0 : Below w.heap.size w W0 := by rw [hW0]; exact (Below.refl _ _).alloc (Nat.le_refl _) _
    have HF := hid (field_no p W0 (hL.below hb0) hok hp1 hp2)
    have HB0 := hid hb0
    obtain ⟨nL, hnL⟩ : ∃ nL, nL = L.length := ⟨_, rfl⟩
    rw [← hnL] at hW0 ⊢
    clear hb0 hn hl hIB hL hnL
    go_enter Tryd.func3, Tryd.ntmps3
    go_wp2_with fail
    rw [← hW0]
    refine HF.out.mono ?_
    rintro e w1 ⟨rfl, hb1⟩
    have HB1 := hid (HB0.out.trans (hb1.mono HB0.out.size))
    clear hb1 HF HB0 hW0
    go_wp2_with fail
    go_ret
    exact ⟨rfl, HB1.out⟩

end Go.Proofs.YtoodjpkflcbfdaiDoor

namespace Go.Proofs.YtoodjpkflcbfdaiDoor
open Go.RowKit Go.Maps

theorem mruns_walk (p size limit : Int) (aL : Option Addr) (cL : Nat) (L : List InsZ) (w : World) (hL : Laid w) (hp1 : -9223372036854775808 ≤ p) (hp2 : p ≤ 9223372036854775807) (hn : L.length ≤ 4398046511104) (hl : LstI w.heap.size w aL cL L) (hIB : InsB L) :
    Calls Tryd.prog 3 #[.int .i64 p, .agg #[.int .i64 size, .slice aL L.length cL], .int .i64 limit] w fun e w' => e = .returned (.bool true) ∧ Below w.heap.size w w' :=
  mruns_any srtAs p size limit aL cL L w hL hp1 hp2 hn hl hIB

end Go.Proofs.YtoodjpkflcbfdaiDoor
