/- Package machine: ascending, what is collected. Package machine: ascending. Package machine: Run. Runs, plainly: a greater limit; one ascending list. -/
import Derived.Test.YthemehdcakimgaiDoorMahO
import Derived.Maps.RangeWalk
import Derived.Test.YthemehdcakimgaiDoorBiAL
namespace Go.Proofs.YthemehdcakimgaiDoor
open Go.RowKit Go.Maps

/-- append(l, c): a cell more -/
theorem wpList_cel {ops : Array Oper} {rest : List Oper} {o : Oper} {act : Act} {Q : Exit → Act → World → Prop} (W : World) (hgd : o.guard = none) (s x : Operand)
    (ho : o.op = .call { callee := .builtin .append, args := #[s, x], argTypes := #[29, 29] }) (v : Value) (base : Nat) (l : List (Int × Int)) (z0 z1 : Int)
    (hown : CelR base W v l) (hs : act.eval s = v) (hx : act.eval x = .slice (some ⟨W.heap.size, 0, none⟩) 1 1) (hlen : l.length ≤ 4000000) (hbase : base ≤ W.heap.size)
    (h : ∀ v' w2, CelR base w2 v' (l ++ [(z0, z1)]) → Below base W w2 → W.grownBy w2 v.ownBlock → wpList Tryd.prog ops Q rest (act.put o.dst v') w2) :
    wpList Tryd.prog ops Q (o :: rest) act (W.alloc (.cells #[.int .i64 z0, .int .i64 z1] 67)) := by
  obtain ⟨cs, hcs⟩ : ∃ cs, cs = #[Value.int .i64 z0, .int .i64 z1] := ⟨_, rfl⟩
  rw [← hcs]
  have hbw : Below W.heap.size W (W.alloc (.cells cs 67)) := (Below.refl _ _).alloc (Nat.le_refl _) _
  obtain ⟨i0, hi, hz0, hz1, hz2⟩ := info_parts (show (Tryd.prog.info? 67).map (fun i => (i.zero, i.size, i.bytes)) = some (some (.agg #[.int .i64 0, .int .i64 0]), 2, 16) by kernel_rfl)
  have h1 : (W.alloc (.cells cs 67)).ownsRow base 67 2 v l.length (celv l) := World.ownsRow.alloc hown _
  refine wpList_append_own _ hgd s x 29 ho base 67 i0 _ 2 16 Tryd.underlying29 hi hz0 hz1 hz2 rfl (by decide) _ _ _ hs h1 ⟨W.heap.size, 0, none⟩ 1 1 cs.toList hx (by rw [hcs]; rfl) ?_ ?_ (by unfold maxLen; omega) (by omega) (by simp; omega) ?_
  · intro j t hj
    have hc : (W.alloc (.cells cs 67)).heap[W.heap.size]? = some (.cells cs 67 (0, 0)) := heap_alloc_new W _
    have hadd : (⟨W.heap.size, 0, none⟩ : Addr).add j = ⟨W.heap.size, j, none⟩ := by unfold Addr.add; split <;> simp_all
    rw [hadd]
    simp only [World.cell?, hc]
    simpa using hj
  · intro t ht
    rw [hcs] at ht
    have ht2 : t = .int .i64 z0 ∨ t = .int .i64 z1 := by simpa using ht
    rcases ht2 with rfl | rfl <;> rfl
  · intro v' w2 hown2 hgrow _
    have hB0 : Below base (W.alloc (.cells cs 67)) w2 := (Below.refl base _).grown hgrow (by simp; omega) (fun k hk => (h1.lt k hk).1)
    refine h v' w2 ?_ ((hbw.mono hbase).trans hB0) ⟨hgrow.os, hgrow.tape, hgrow.output, by have := hgrow.size; simp at this; omega, fun k hk hne => (hgrow.block k (by simp; omega) hne).trans (hbw.block k hk)⟩
    unfold CelR
    rw [celv_app, List.length_append]
    rw [hcs] at hown2
    simpa [celv] using hown2

theorem same_int (a b : Int) : (Lit.int .i64 a).sameKey (Lit.int .i64 b) = decide (a = b) := by
  by_cases h : a = b
  · subst h
    simp [Lit.sameKey]
  · rw [sameKey_ne (by intro e; injection e with _ e; exact h e), decide_eq_false h]
/-- what is collected -/
structure AsI (B r n : Nat) (D : DataW Unit) (left : Lit → Bool) (cnt : Nat) (l : List (Int × Int)) (v : Value) (w W : World) : Prop where
  rg : W.ranges Tryd.prog 3 (plainElem Tryd.prog 3) B r n D left cnt
  own : CelR w.heap.size W v l
  mem : ∀ x y, (x, y) ∈ l ↔ (x ≠ 0 ∧ I64 x ∧ Maps.has D (.int .i64 x) = true ∧ left (.int .i64 x) = false ∧ D.atKey (.int .i64 x) (.lit (.int .i64 0)) = .lit (.int .i64 y))
  nd : (l.map Prod.fst).Nodup
  bel : Below w.heap.size w W
  len : l.length + cnt ≤ n
theorem mem_step {D : DataW Unit} {left : Lit → Bool} {l : List (Int × Int)} {x c : Int} (hx : x ≠ 0) (h64 : I64 x) (hl : left (.int .i64 x) = true) (hat : ∀ zd, D.atKey (.int .i64 x) zd = .lit (.int .i64 c))
    (h : ∀ x y, (x, y) ∈ l ↔ (x ≠ 0 ∧ I64 x ∧ Maps.has D (.int .i64 x) = true ∧ left (.int .i64 x) = false ∧ D.atKey (.int .i64 x) (.lit (.int .i64 0)) = .lit (.int .i64 y))) :
    ∀ x' y, (x', y) ∈ l ++ [(x, c)] ↔ (x' ≠ 0 ∧ I64 x' ∧ Maps.has D (.int .i64 x') = true ∧ (fun z : Lit => left z && !z.sameKey (.int .i64 x)) (.int .i64 x') = false ∧ D.atKey (.int .i64 x') (.lit (.int .i64 0)) = .lit (.int .i64 y)) := fun x' y => by
  rw [List.mem_append, h x' y]
  simp only [same_int]
  by_cases e : x' = x
  · subst e
    simp only [hl, List.mem_singleton, Prod.mk.injEq, true_and, decide_true, Bool.not_true, Bool.and_false]
    constructor
    · rintro (⟨_, _, _, h4, _⟩ | rfl)
      · cases h4
      · exact ⟨hx, h64, has_true_of_atKey hat, hat _⟩
    · rintro ⟨_, _, _, h5⟩
      rw [hat] at h5
      injection h5 with h5
      injection h5 with _ h5
      exact .inr h5.symm
  · simp [e]
theorem mem_skip {D : DataW Unit} {left : Lit → Bool} {l : List (Int × Int)}
    (h : ∀ x y, (x, y) ∈ l ↔ (x ≠ 0 ∧ I64 x ∧ Maps.has D (.int .i64 x) = true ∧ left (.int .i64 x) = false ∧ D.atKey (.int .i64 x) (.lit (.int .i64 0)) = .lit (.int .i64 y))) :
    ∀ x' y, (x', y) ∈ l ↔ (x' ≠ 0 ∧ I64 x' ∧ Maps.has D (.int .i64 x') = true ∧ (fun z : Lit => left z && !z.sameKey (.int .i64 0)) (.int .i64 x') = false ∧ D.atKey (.int .i64 x') (.lit (.int .i64 0)) = .lit (.int .i64 y)) := fun x' y => by
  rw [h x' y]
  simp only [same_int]
  by_cases e : x' = 0
  · simp [e]
  · simp [e]

end Go.Proofs.YthemehdcakimgaiDoor

namespace Go.Proofs.YthemehdcakimgaiDoor
open Go.RowKit Go.Maps

theorem wf_boundsM {x : Int} (h : (Lit.int .i64 x).wf = true) : I64 x := bounds_i64 h
/-- what slices.SortFunc must do -/
def SrtAs : Prop := ∀ (base : Nat) (v : Value) (l : List (Int × Int)) (W : World), CelR base W v l → l.length ≤ 4000000 → base ≤ W.heap.size →
  Calls Tryd.prog 39 #[v, .func (.func 40) #[] #[]] W fun e w' => e = .returned (.tuple #[]) ∧ ∃ l' : List (Int × Int), l'.Perm l ∧ l'.Pairwise (fun a b => a.1 ≤ b.1) ∧ CelR base w' v l' ∧ Below base W w'
/-- what is told, ascending, but for cell 0 -/
def AscC (cs l : List (Int × Int)) : Prop := l.Pairwise (fun a b => a.1 < b.1) ∧ ∀ x y, (x, y) ∈ l ↔ (x ≠ 0 ∧ I64 x ∧ 0 ≤ finz cs x ∧ cvl cs x = y)

theorem own_ne_iter {base : Nat} {W : World} {v : Value} {l : List (Int × Int)} {B r n : Nat} {D : DataW Unit} {left : Lit → Bool} {cnt : Nat} (h : CelR base W v l) (hr : W.ranges Tryd.prog 3 (plainElem Tryd.prog 3) B r n D left cnt) : some B ≠ v.ownBlock ∧ some r ≠ v.ownBlock := by
  obtain ⟨es, cl, si, se, c0, h1, _, _, _, h2, _⟩ := hr
  rcases h.2 with ⟨rfl, _⟩ | ⟨g, cap, cur, rfl, _, hg, _⟩
  · exact ⟨(by intro e; cases e), (by intro e; cases e)⟩
  · constructor
    · intro e
      have e' : some B = some g := e
      injection e' with e'
      subst e'
      rw [hg] at h1
      injection h1 with h1
      cases h1
    · intro e
      have e' : some r = some g := e
      injection e' with e'
      subst e'
      rw [hg] at h2
      injection h2 with h2
      cases h2

set_option maxRecDepth 100000 in
set_option maxHeartbeats 2000000 in
theorem pasc_any (SO : SrtAs) (B n : Nat) (cs : List (Int × Int)) (w : World) (hM : MapAt w B n cs) (hn : n ≤ 4000000) :
    Calls Tryd.prog 24 #[.map (some B)] w fun e w' => ∃ v l, e = .returned v ∧ CelR w.heap.size w' v l ∧ AscC cs l ∧ Below w.heap.size w w' := by
  obtain ⟨D, hD, hC⟩ := hM
  have HSO := hid SO
  have HCM := hid hC
  have HDD := hid hD
  have HSZ := hid hD.size_le
  clear SO hC
  go_enter Tryd.func24, Tryd.ntmps24
  go_wp2_with (first | (at_range; refine wpList_range_own _ rfl _ 62 rfl 3 3 keyI Tryd.underlying62 _ B n D rfl hD ?_; intro w0 hrg0 hg0 hs0))
  go_frame
  have HI0 : Hid (AsI B w.heap.size n D (Maps.has D) (Maps.size D) [] (.slice none 0 0) w w0) := ⟨hrg0, World.ownsRow_nil _ _ _ _, fun x y => ⟨fun h => (by cases h), fun h => by rw [h.2.2.1] at h; exact absurd h.2.2.2.1 (by simp)⟩, List.nodup_nil, ⟨hg0.os, hg0.tape, hg0.output, hg0.size, fun k hk => hg0.block k hk (by simp)⟩, by simpa using HSZ.out⟩
  clear hrg0 hg0 hs0 hD
  go_loopw [3] (fun lv wr => ∃ (left : Lit → Bool) (cnt : Nat) (l : List (Int × Int)), Hid (AsI B w.heap.size n D left cnt l lv w wr)) (fun _ wr => wr.rangeLeft B w.heap.size)
  case atStart => exact ⟨_, _, _, HI0.out⟩
  case round =>
    obtain ⟨left, cnt, l, HI⟩ := hrel
    have hrg := HI.out.rg
    go_wp2_with (at_next; refine wpList_next_ranges_ii _ rfl _ rfl 3 3 .i64 .i64 keyI Tryd.underlying3 Tryd.underlying3 B w.heap.size n D left cnt rfl hrg ?_ ?_)
    · intro _ hl0
      have HST := hid (HSO.out w.heap.size u3 l wr HI.out.own (by have := HI.out.len; omega) HI.out.bel.size)
      have HL0 := hid hl0
      clear hl0 hrg HSO HI0
      go_wp2_with fail
      refine HST.out.mono ?_
      rintro e w2 ⟨rfl, l', hpm, hsr, hcl, hb2⟩
      have HEND : Hid (∃ v l, Ending.returned u3 = .returned v ∧ CelR w.heap.size w2 v l ∧ AscC cs l ∧ Below w.heap.size w w2) := by
        have hmem : ∀ x y, (x, y) ∈ l' ↔ (x ≠ 0 ∧ I64 x ∧ 0 ≤ finz cs x ∧ cvl cs x = y) := fun x y => by
          rw [hpm.mem_iff, HI.out.mem x y]
          constructor
          · rintro ⟨e1, e2, e3, _, e5⟩
            have hc := HCM.out x e2
            rw [e3] at hc
            rw [hc.2] at e5
            injection e5 with e5
            injection e5 with _ e5
            exact ⟨e1, e2, of_decide_eq_true hc.1.symm, e5⟩
          · rintro ⟨e1, e2, e3, e4⟩
            have hc := HCM.out x e2
            exact ⟨e1, e2, by rw [hc.1]; exact decide_eq_true e3, HL0.out _, by rw [hc.2, e4]⟩
        refine ⟨u3, l', rfl, hcl, ⟨?_, hmem⟩, HI.out.bel.trans hb2⟩
        have hnd : (l'.map Prod.fst).Nodup := (hpm.map Prod.fst).nodup_iff.2 HI.out.nd
        have hnd2 : l'.Pairwise (fun a b => a.1 ≠ b.1) := by
          unfold List.Nodup at hnd
          exact List.pairwise_map.1 hnd
        exact (hsr.and hnd2).imp (fun h => by have h1 := h.1; have h2 := h.2; omega)
      clear hpm hsr hcl hb2 HST HI HCM HL0
      go_wp2_with fail
      go_ret
      exact HEND.out
    · intro x c w1 cnt1 hwx hwc hlx hat hrg1 hlt hg1 hs1 hen
      have h64 : I64 x := wf_boundsM hwx
      have HO1 : Hid (CelR w.heap.size w1 u3 l) := World.ownsRow.kept HI.out.own hg1 (by
        have h2 := (own_ne_iter HI.out.own hrg).2
        cases hv : u3.ownBlock with
        | none => exact .inl rfl
        | some k => exact .inr (by rw [← hv]; exact Ne.symm h2))
      have HB1 : Hid (Below w.heap.size w w1) := HI.out.bel.trans ⟨hg1.os, hg1.tape, hg1.output, hg1.size, fun k hk => hg1.block k (Nat.lt_of_lt_of_le hk HI.out.bel.size) (by intro e; injection e with e; omega)⟩
      have HR1 := hid hrg1
      have HRO := hid hrg
      have HLT := hid hlt
      by_cases h0 : x = 0
      · subst h0
        have HN : Hid (AsI B w.heap.size n D (fun z => left z && !z.sameKey (.int .i64 0)) cnt1 l u3 w w1) := ⟨hrg1, HO1.out, mem_skip HI.out.mem, HI.out.nd, HB1.out, by have := HI.out.len; omega⟩
        clear hrg hrg1 hg1 hs1 hlt hat hlx HSO
        go_wp2_with fail
        exact ⟨⟨_, _, _, HN.out⟩, by rw [HR1.out.left_eq, HRO.out.left_eq]; exact HLT.out⟩
      · have hx0 : (x != 0) = true := by simp [h0]
        have HMS := hid (mem_step h0 h64 hlx hat HI.out.mem)
        have HND : Hid (((l ++ [(x, c)]).map Prod.fst).Nodup) := by
          unfold Hid
          rw [List.map_append, List.nodup_append]
          refine ⟨HI.out.nd, by simp, fun a ha b hb => ?_⟩
          rintro rfl
          obtain ⟨⟨a', y⟩, h1, rfl⟩ := List.mem_map.1 ha
          have hb' : a' = x := by simpa using hb
          subst hb'
          have := ((HI.out.mem a' y).1 h1).2.2.2.1
          rw [hlx] at this
          cases this
        have HLN : Hid (l.length ≤ 4000000 ∧ l.length + 1 + cnt1 ≤ n) := ⟨by have := HI.out.len; omega, by have := HI.out.len; omega⟩
        clear hrg hrg1 hg1 hs1 hlt hat hlx HSO
        go_wp2_with (at_builtin; refine wpList_cel w1 rfl _ _ rfl _ w.heap.size l x c HO1.out rfl rfl HLN.out.1 HB1.out.size ?_)
        intro v' w2 hc2 hb2 hg2
        have hne := own_ne_iter HO1.out HR1.out
        have hr2 := HR1.out.kept hg2 hne.1 hne.2
        have HN : Hid (AsI B w.heap.size n D (fun z => left z && !z.sameKey (.int .i64 x)) cnt1 (l ++ [(x, c)]) v' w w2) := ⟨hr2, hc2, HMS.out, HND.out, HB1.out.trans hb2, by rw [List.length_append]; exact HLN.out.2⟩
        have HR2 := hid hr2
        clear hc2 hb2 hg2 hne hr2
        go_wp2_with fail
        exact ⟨⟨_, _, _, HN.out⟩, by rw [HR2.out.left_eq, HRO.out.left_eq]; exact HLT.out⟩

end Go.Proofs.YthemehdcakimgaiDoor

namespace Go.Proofs.YthemehdcakimgaiDoor
open Go.RowKit Go.Maps

theorem results_ctM {P : Program} {fn : Func} {p u : Tmp} {ty : TypeId} (h : fn.results = #[.cell p ty, .tmp u]) (tmps : Array Value) (w : World) (g : Nat) (tt : TypeId) (cs : Array Value) (fr : Nat × Nat) (d : TypeDesc)
    (hp : tmps.getD p undef = .pointer (some ⟨g, 0, none⟩)) (hg : w.heap[g]? = some (.cells cs tt fr))
    (hu : P.underlying ty = some d) (hd : (match d with | .struct _ | .array _ _ => true | _ => false) = true) (hi : (P.info? ty).map (·.size) = some cs.size) :
    (results fn tmps).run P w = .ok (.tuple #[.agg cs, tmps.getD u undef]) w := by
  have hp' : tmps[p]?.getD undef = .pointer (some ⟨g, 0, none⟩) := by simpa using hp
  simp [results, h, hp', asAddr, run_loadVar_row w g tt ty cs fr d hg hu hd hi]
theorem mgo_len (p : Nat) (L : List InsZ) (limit : Nat) : ∀ (f : Nat) (s : RM) (done l : List (List Int)) (cs : List (Int × Int)), mgo p L limit f s done = .good l cs → 0 < l.length ∧ l.length ≤ done.length + f
  | 0, _, _, _, _, h => by simp [mgo] at h
  | f + 1, s, done, l, cs, h => by
    rw [mgo] at h
    split at h
    · cases h
    · split at h
      · cases h
      · split at h
        · cases h
        · split at h
          · injection h with h1 _
            rw [← h1]
            simp
          · have := mgo_len p L limit f _ _ l cs h
            simp at this
            exact ⟨this.1, by omega⟩
theorem mgo_bad (p : Nat) (L : List InsZ) (limit : Nat) : ∀ (f : Nat) (s : RM) (done : List (List Int)) (z : Int), mgo p L limit f s done = .bad z → z ≠ 0
  | 0, _, _, _, h => by simp [mgo] at h; omega
  | f + 1, s, done, z, h => by
    rw [mgo] at h
    split at h
    · injection h with h; omega
    · split at h
      · injection h with h; omega
      · split at h
        · rename_i h1
          injection h with h
          rw [← h]
          exact h1
        · split at h
          · cases h
          · exact mgo_bad p L limit f _ _ z h
/-- what a run comes to: the first cell of its last step -/
def outv (l : List (List Int)) : Int := match (stvs l)[(l.length - 1) * 10 + 7]? with
  | some (.int _ x) => x
  | _ => 0
/-- what Run gives -/
def RuR (p : Nat) (size : Int) (L : List InsZ) (limit : Int) (w : World) (e : Ending) (w' : World) : Prop := Below w.heap.size w w' ∧
  if fz6 (p : Int) size L.length limit ≠ 0 then e = .returned (.tuple #[.agg #[.int .i64 0, .int .i64 0, .slice none 0 0], errV (fz6 (p : Int) size L.length limit)])
  else match mwalk p size L limit.toNat with
    | .bad z => e = .returned (.tuple #[.agg #[.int .i64 0, .int .i64 0, .slice none 0 0], errV z])
    | .good l cs => ∃ v l', e = .returned (.tuple #[.agg #[.int .i64 (outv l), .int .i64 ((l.length - 1 : Nat) : Int), v], .nilIface]) ∧ CelR w.heap.size w' v l' ∧ AscC cs l'

set_option maxRecDepth 100000 in
set_option maxHeartbeats 2000000 in
theorem prun_any (SO : SrtAs) (p b : Nat) (size limit : Int) (aL : Option Addr) (cL : Nat) (L : List InsZ) (w : World) (h3 : 3 ≤ p) (h4 : p ≤ 2147483647) (hpr : Num.Prime p) (hp : w.cell? ⟨b, 0, none⟩ = some (.int .i64 p)) (hn : L.length ≤ 281474976710656) (hL : LstI w.heap.size w aL cL L) (hIB : InsB L) :
    Calls Tryd.prog 9 #[.pointer (some ⟨b, 0, none⟩), .agg #[.int .i64 size, .slice aL L.length cL], .int .i64 limit] w (RuR p size L limit w) := by
  obtain ⟨V, hV⟩ : ∃ V, V = w.alloc (.cells #[.int .i64 size, .slice aL L.length cL] 24) := ⟨_, rfl⟩
  obtain ⟨W0, hW0⟩ : ∃ W0, W0 = V.alloc (.cells #[.int .i64 0, .int .i64 0, .slice none 0 0] 31) := ⟨_, rfl⟩
  have b1 : Below w.heap.size w V := by rw [hV]; exact (Below.refl _ _).alloc (Nat.le_refl _) _
  have hs : V.heap.size = w.heap.size + 1 := by rw [hV]; simp
  have b2 : Below V.heap.size V W0 := by rw [hW0]; exact (Below.refl _ _).alloc (Nat.le_refl _) _
  have hb0 := b1.trans (b2.mono b1.size)
  have hr0 : W0.heap[w.heap.size + 1]? = some (.cells #[.int .i64 0, .int .i64 0, .slice none 0 0] 31 (0, 0)) := by rw [hW0, ← hs]; exact heap_alloc_new V _
  have HWD := hid (pwalked_any p b size limit aL cL L W0 h3 h4 hpr ((hb0.cell (p := ⟨b, 0, none⟩) (World.block_lt_of_cell? _ _ hp)).trans hp) hn ((hL.below hb0).mono hb0.size) hIB)
  have HB0 := hid hb0
  have HR0 := hid hr0
  have HSO := hid SO
  obtain ⟨nL, hnL⟩ : ∃ nL, nL = L.length := ⟨_, rfl⟩
  rw [← hnL] at HWD hV ⊢
  rw [hV] at hW0
  clear b1 hs b2 hb0 hr0 hV hp hn hL hIB hpr SO h3 h4 hnL
  go_enter Tryd.func9, Tryd.ntmps9
  go_wp2_with fail
  rw [← hW0]
  clear hW0
  refine HWD.out.mono ?_
  rintro e w1 ⟨hb1, hr1⟩
  have HR1 := hid ((hb1.block _ (Array.getElem?_eq_some_iff.1 HR0.out).1).trans HR0.out)
  have HB1 := hid (HB0.out.trans (hb1.mono HB0.out.size))
  have d0 : w1.cell? ⟨w.heap.size + 1, 0, none⟩ = some (.int .i64 0) := by simp [World.cell?, HR1.out]
  have d1 : w1.cell? ⟨w.heap.size + 1, 1, none⟩ = some (.int .i64 0) := by simp [World.cell?, HR1.out]
  have d2 : w1.cell? ⟨w.heap.size + 1, 2, none⟩ = some (.slice none 0 0) := by simp [World.cell?, HR1.out]
  have df := (row3_of HR1.out).frozen
  have HCASE : Hid ((∃ z, z ≠ 0 ∧ e = .returned (.tuple #[.slice none 0 0, .map none, errV z]) ∧ ∀ w', Below w.heap.size w w' → RuR p size L limit w (.returned (.tuple #[.agg #[.int .i64 0, .int .i64 0, .slice none 0 0], errV z])) w') ∨ ∃ l cs v B, 0 < l.length ∧ l.length ≤ 16385 ∧ e = .returned (.tuple #[v, .map (some B), .nilIface]) ∧ StR W0.heap.size w1 v l ∧ MapAt w1 B (1 + 2 * l.length) cs ∧ ∀ w' v l', Below w.heap.size w w' → CelR w.heap.size w' v l' → AscC cs l' → RuR p size L limit w (.returned (.tuple #[.agg #[.int .i64 (outv l), .int .i64 ((l.length - 1 : Nat) : Int), v], .nilIface])) w') := by
    by_cases hz : fz6 (p : Int) size L.length limit ≠ 0
    · rw [if_pos hz] at hr1
      exact .inl ⟨_, hz, hr1, fun w' hb => ⟨hb, by rw [if_pos hz]⟩⟩
    · rw [if_neg hz] at hr1
      have hlm : 0 ≤ limit ∧ limit ≤ 16384 := by
        have hz0 : fz6 (p : Int) size L.length limit = 0 := Decidable.byContradiction hz
        unfold fz6 at hz0
        split at hz0
        · omega
        · split at hz0 <;> omega
      cases hX : mwalk p size L limit.toNat with
      | bad z =>
        rw [hX] at hr1
        exact .inl ⟨z, mgo_bad _ _ _ _ _ _ _ hX, hr1, fun w' hb => ⟨hb, by rw [if_neg hz, hX]⟩⟩
      | good l cs =>
        rw [hX] at hr1
        obtain ⟨v, B, h1, h2, h5⟩ := hr1
        have hln := mgo_len _ _ _ _ _ _ _ _ hX
        refine .inr ⟨l, cs, v, B, hln.1, by have := hln.2; simp at this; omega, h1, h2, h5, fun w' v' l' hb hc ha => ⟨hb, ?_⟩⟩
        rw [if_neg hz, hX]
        exact ⟨v', l', rfl, hc, ha⟩
  clear hr1 HWD HR0 HB0
  rcases HCASE.out with ⟨z, hz, rfl, hE⟩ | ⟨l, cs, v, B, hl0, hl1, rfl, hs1, hm1, hE⟩
  · rw [errV_nz hz] at hE ⊢
    have HP3 := hid (put3_heap HR1.out (.int .i64 0) (.int .i64 0) (.slice none 0 0))
    have HE := hid (hE _ (put3_below HB1.out (Nat.le_succ _) (g := w.heap.size + 1) (.int .i64 0) (.int .i64 0) (.slice none 0 0)))
    clear hE HCASE hz HSO hb1
    go_wp2_with fail
    (try simp only [Exit.inBlock, Exit.then])
    refine bodyPost_ret (results_ctM rfl _ _ (w.heap.size + 1) 31 #[.int .i64 0, .int .i64 0, .slice none 0 0] (0, 0) _ rfl HP3.out Tryd.underlying31 rfl (by kernel_rfl)) rfl ?_
    exact HE.out
  · obtain ⟨av, cv, rfl⟩ := hs1.form
    obtain ⟨g, cap, e1, _, hcl⟩ := hs1.cells hl0
    injection e1 with e1 _ e3
    subst e1 e3
    obtain ⟨o, ho⟩ := stvs_int l ((l.length - 1) * 10 + 7) (by rw [hs1.1]; omega)
    have hou : outv l = o := by unfold outv; rw [ho]
    rw [hou] at hE
    have ko := hcl _ _ ho
    have HAS := hid (fun W (h : MapAt W B (1 + 2 * l.length) cs) => pasc_any HSO.out B (1 + 2 * l.length) cs W h (by omega))
    obtain ⟨n, hn⟩ : ∃ n, n = l.length := ⟨_, rfl⟩
    rw [← hn] at hl0 hl1 hm1 hE HAS ko ⊢
    obtain ⟨k, hk⟩ : ∃ k, n = k + 1 := ⟨n - 1, by omega⟩
    subst hk
    rw [Nat.add_sub_cancel] at ko hE
    have hsub : IntKind.i64.wrap (((k + 1 : Nat) : Int) - 1) = (k : Int) := by rw [IntKind.wrap_i64]; omega
    have HM1 := hid hm1
    have HEE := hid hE
    have hkl : (k : Int) < ((k + 1 : Nat) : Int) := by omega
    clear hE HCASE hs1 hcl ho hou hn hm1 HSO hb1
    go_wp2_with fail
    refine wp_region_held_drew (S := (fun W => W.cell? ⟨g, k * 10 + 7, none⟩ = some (.int .i64 o))) (by kernel_rfl) ko (fun hHeld => ?_)
    refine wpAnyH_takeW (i := 0) (v := .slice (some ⟨g, 0, none⟩) (k + 1) cv) rfl (by kernel_rfl) (by kernel_rfl) (by kernel_rfl) (fun _ _ _ h => h) (by rfl) (fun W hC => by go_simp) hHeld ?_
    simp only [Act.put, List.setIfInBounds_toArray, List.set_cons_zero, List.set_cons_succ]
    refine wpAnyH_takeW (i := 1) (v := .int .i64 (k : Int)) rfl (by kernel_rfl) (by kernel_rfl) (by kernel_rfl) (fun _ _ _ h => h) (by rfl) (fun W hC => by go_simp) hHeld ?_
    simp only [Act.put, List.setIfInBounds_toArray, List.set_cons_zero, List.set_cons_succ]
    refine wpAnyH_takeW (i := 2) (v := .pointer (some ⟨g, k * 10, none⟩)) rfl (by kernel_rfl) (by kernel_rfl) (by kernel_rfl) (fun _ _ _ h => h) (by rfl) (fun W hC => by (go_simp; intro hh; omega)) hHeld ?_
    simp only [Act.put, List.setIfInBounds_toArray, List.set_cons_zero, List.set_cons_succ]
    refine wpAnyH_takeW (i := 3) (v := .pointer (some ⟨g, k * 10 + 7, none⟩)) rfl (by kernel_rfl) (by kernel_rfl) (by kernel_rfl) (fun _ _ _ h => h) (by rfl) (fun W hC => by go_simp) hHeld ?_
    simp only [Act.put, List.setIfInBounds_toArray, List.set_cons_zero, List.set_cons_succ]
    refine wpAnyH_takeW (i := 4) (v := .pointer (some ⟨g, k * 10 + 7, none⟩)) rfl (by kernel_rfl) (by kernel_rfl) (by kernel_rfl) (fun _ _ _ h => h) (by rfl) (fun W hC => by go_simp) hHeld ?_
    simp only [Act.put, List.setIfInBounds_toArray, List.set_cons_zero, List.set_cons_succ]
    refine wpAnyH_takeW (i := 5) (v := .int .i64 o) rfl (by kernel_rfl) (by kernel_rfl) (by kernel_rfl) (fun _ _ _ h => h) (by rfl) (fun W hC => by go_simp) hHeld ?_
    simp only [Act.put, List.setIfInBounds_toArray, List.set_cons_zero, List.set_cons_succ]
    refine wpAnyH_takeW (i := 6) (v := .int .i64 (k : Int)) rfl (by kernel_rfl) (by kernel_rfl) (by kernel_rfl) (fun _ _ _ h => h) (by rfl) (fun W hC => by go_simp) hHeld ?_
    simp only [Act.put, List.setIfInBounds_toArray, List.set_cons_zero, List.set_cons_succ]
    refine wpAnyH_takeW (i := 7) (v := .map (some B)) rfl (by kernel_rfl) (by kernel_rfl) (by kernel_rfl) (fun _ _ _ h => h) (by rfl) (fun W hC => by go_simp) hHeld ?_
    simp only [Act.put, List.setIfInBounds_toArray, List.set_cons_zero, List.set_cons_succ]
    refine wpAnyH_ready (rs := [8]) (by kernel_rfl) (by simp) ?_
    refine AllReadyH.consW rfl (fun K hK => ?_) AllReadyH.nil
    go_simp
    refine (HAS.out w1.drew HM1.out).mono ?_
    rintro e w2 ⟨v, l', rfl, hcl, hasc, hb2⟩
    have hb12 : Below w1.heap.size w1 w2 := ⟨hb2.os, hb2.tape, hb2.output, hb2.size, hb2.block⟩
    obtain ⟨a2, c2, rfl⟩ := hcl.form
    have ko2 := (hb12.cell (p := ⟨g, k * 10 + 7, none⟩) (World.block_lt_of_cell? _ _ ko)).trans ko
    have HR2 := hid ((hb12.block _ (Array.getElem?_eq_some_iff.1 HR1.out).1).trans HR1.out)
    have HB2 := hid (HB1.out.trans (hb12.mono HB1.out.size))
    have HCL := hid hcl
    have HAC := hid hasc
    have hlt1 := hb12.size
    have HGE : Hid (w.heap.size + 1 < w1.heap.size) := (Array.getElem?_eq_some_iff.1 HR1.out).1
    have HGG : Hid (g ≠ w.heap.size + 1) := by
      rintro rfl
      have h5 := World.block_lt_of_cell? _ _ ko
      have h6 := ko
      have h7 := HR1.out
      have : (k * 10 + 7) < 3 := by
        simp only [World.cell?, h7] at h6
        obtain ⟨h8, _⟩ := Array.getElem?_eq_some_iff.1 h6
        simpa using h8
      omega
    refine hK.out _ _ ko2 (fun hHeld => ?_)
    clear hK K hcl hasc hb2 hb12 d0 d1 d2 df HAS HM1
    have d0 : w2.cell? ⟨w.heap.size + 1, 0, none⟩ = some (.int .i64 0) := by simp [World.cell?, HR2.out]
    have d1 : w2.cell? ⟨w.heap.size + 1, 1, none⟩ = some (.int .i64 0) := by simp [World.cell?, HR2.out]
    have d2 : w2.cell? ⟨w.heap.size + 1, 2, none⟩ = some (.slice none 0 0) := by simp [World.cell?, HR2.out]
    have df := (row3_of HR2.out).frozen
    refine wpAnyH_takeW (i := 9) (v := .agg #[.int .i64 o, .int .i64 (k : Int), .slice a2 l'.length c2]) rfl (by kernel_rfl) (by kernel_rfl) (by kernel_rfl) (fun _ _ _ h => h) (by rfl) (fun W hC => by go_simp) hHeld ?_
    simp only [Act.put, List.setIfInBounds_toArray, List.set_cons_zero, List.set_cons_succ]
    have HP3 := hid (put3_heap HR2.out (.int .i64 o) (.int .i64 (k : Int)) (.slice a2 l'.length c2))
    have HK3 : Hid ((((w2.setCell ⟨w.heap.size + 1, 0, none⟩ (.int .i64 o)).setCell ⟨w.heap.size + 1, 1, none⟩ (.int .i64 (k : Int))).setCell ⟨w.heap.size + 1, 2, none⟩ (.slice a2 l'.length c2)).cell? ⟨g, k * 10 + 7, none⟩ = some (.int .i64 o)) := by
      refine (World.cell?_of_block (w := w2) (a := ⟨g, k * 10 + 7, none⟩) ?_).trans ko2
      rw [Below.heap_setCell _ _ _ _ HGG.out, Below.heap_setCell _ _ _ _ HGG.out, Below.heap_setCell _ _ _ _ HGG.out]
    have HEND := hid (HEE.out (((w2.setCell ⟨w.heap.size + 1, 0, none⟩ (.int .i64 o)).setCell ⟨w.heap.size + 1, 1, none⟩ (.int .i64 (k : Int))).setCell ⟨w.heap.size + 1, 2, none⟩ (.slice a2 l'.length c2)) (.slice a2 l'.length c2) l' (put3_below HB2.out (Nat.le_succ _) (g := w.heap.size + 1) _ _ _) (by
      refine ⟨HCL.out.1, ?_⟩
      have hge := HGE.out
      rcases HCL.out.2 with hn | ⟨g', cap', cur, e1, hb', hg', rest⟩
      · exact .inl hn
      · refine .inr ⟨g', cap', cur, e1, ?_, ?_, rest⟩
        · have h9 : w1.heap.size ≤ g' := hb'
          omega
        · have h9 : w1.heap.size ≤ g' := hb'
          rw [Below.heap_setCell _ _ _ _ (by show g' ≠ w.heap.size + 1; omega), Below.heap_setCell _ _ _ _ (by show g' ≠ w.heap.size + 1; omega), Below.heap_setCell _ _ _ _ (by show g' ≠ w.heap.size + 1; omega)]
          exact hg') HAC.out)
    refine wpAnyH_ready (rs := [10]) (by kernel_rfl) (by simp) ?_
    refine AllReadyH.consW rfl (fun K hK => ?_) AllReadyH.nil
    go_simp
    refine hK.out _ _ HK3.out (fun hHeld => ?_)
    clear hK K
    refine wpAnyH_takeW (i := 11) (v := .nilIface) rfl (by kernel_rfl) (by kernel_rfl) (by kernel_rfl) (fun _ _ _ h => h) (by rfl) (fun W hC => by go_simp) hHeld ?_
    simp only [Act.put, List.setIfInBounds_toArray, List.set_cons_zero, List.set_cons_succ]
    refine wpAnyH_done (by kernel_rfl) ?_ _
    clear hHeld ko ko2 HEE HCL HAC HK3 HR2 HR1 d0 d1 d2 df
    go_wp2_with fail
    (try simp only [Exit.inBlock, Exit.then])
    refine bodyPost_ret (results_ctM rfl _ _ (w.heap.size + 1) 31 #[.int .i64 o, .int .i64 (k : Int), .slice a2 l'.length c2] (0, 0) _ rfl HP3.out Tryd.underlying31 rfl (by kernel_rfl)) rfl ?_
    exact HEND.out

end Go.Proofs.YthemehdcakimgaiDoor

namespace Go.Proofs.YthemehdcakimgaiDoor
open Go.RowKit Go.Maps

theorem asc_pairs : ∀ {us vs : List (Int × Int)}, us.Pairwise (fun a b => a.1 < b.1) → vs.Pairwise (fun a b => a.1 < b.1) → (∀ x, x ∈ us ↔ x ∈ vs) → us = vs
  | [], [], _, _, _ => rfl
  | [], v :: vs, _, _, h => by have := (h v).2 (List.mem_cons_self ..); cases this
  | u :: us, [], _, _, h => by have := (h u).1 (List.mem_cons_self ..); cases this
  | u :: us, v :: vs, hu, hv, h => by
    rw [List.pairwise_cons] at hu hv
    have huv : u = v := by
      rcases List.mem_cons.1 ((h u).1 (List.mem_cons_self ..)) with e | e
      · exact e
      · rcases List.mem_cons.1 ((h v).2 (List.mem_cons_self ..)) with e2 | e2
        · exact e2.symm
        · have h1 := hv.1 u e
          have h2 := hu.1 v e2
          omega
    subst huv
    congr 1
    refine asc_pairs hu.2 hv.2 (fun x => ?_)
    constructor
    · intro hx
      rcases List.mem_cons.1 ((h x).1 (List.mem_cons_of_mem _ hx)) with e | e
      · subst e
        have := hu.1 x hx
        omega
      · exact e
    · intro hx
      rcases List.mem_cons.1 ((h x).2 (List.mem_cons_of_mem _ hx)) with e | e
      · subst e
        have := hv.1 x hx
        omega
      · exact e
theorem AscC.unique {cs l1 l2 : List (Int × Int)} (h1 : AscC cs l1) (h2 : AscC cs l2) : l1 = l2 := asc_pairs h1.1 h2.1 (fun x => by
  obtain ⟨a, b⟩ := x
  rw [h1.2 a b, h2.2 a b])
theorem mgo_more (p : Nat) (L : List InsZ) (limit : Nat) : ∀ (f : Nat) (s : RM) (done l : List (List Int)) (cs : List (Int × Int)), mgo p L limit f s done = .good l cs → done.length < l.length
  | 0, _, _, _, _, h => by simp [mgo] at h
  | f + 1, s, done, l, cs, h => by
    rw [mgo] at h
    split at h
    · cases h
    · split at h
      · cases h
      · split at h
        · cases h
        · split at h
          · injection h with h1 _
            rw [← h1]
            simp
          · have := mgo_more p L limit f _ _ l cs h
            simp at this
            omega
/-- another limit -/
theorem mgo_other (p : Nat) (L : List InsZ) (limit other : Nat) : ∀ (f f2 : Nat) (s : RM) (done l : List (List Int)) (cs : List (Int × Int)), mgo p L limit f s done = .good l cs → done.length ≤ other → done.length + f2 = other + 1 → mgo p L other f2 s done = if other < l.length - 1 then .bad 8 else .good l cs
  | 0, _, _, _, _, _, h, _, _ => by simp [mgo] at h
  | f + 1, 0, _, _, _, _, _, h1, h2 => by omega
  | f + 1, f2 + 1, s, done, l, cs, h, h1, h2 => by
    have hm := mgo_more p L limit _ _ _ _ _ h
    rw [mgo] at h ⊢
    split at h
    · cases h
    · rename_i hpc
      rw [if_neg hpc]
      split at h
      · cases h
      · rename_i hlm
        split at h
        · cases h
        · rename_i her
          split at h
          · rename_i hop
            rw [if_neg (fun hh => hh.2 hop), if_neg her, if_pos hop]
            injection h with e1 e2
            have hl : l.length = done.length + 1 := by rw [← e1]; simp
            rw [if_neg (by omega), e1, e2]
          · rename_i hop
            have hm2 := mgo_more p L limit _ _ _ _ _ h
            simp at hm2
            by_cases hd : done.length = other
            · rw [if_pos ⟨hd, hop⟩, if_pos (by omega)]
            · rw [if_neg (fun hh => hd hh.1), if_neg her, if_neg hop]
              exact mgo_other p L limit other f f2 _ _ l cs h (by simp; omega) (by simp; omega)
theorem mwalk_other {p : Nat} {size : Int} {L : List InsZ} {limit : Nat} (other : Nat) {l : List (List Int)} {cs : List (Int × Int)} (h : mwalk p size L limit = .good l cs) : mwalk p size L other = if other < l.length - 1 then .bad 8 else .good l cs :=
  mgo_other p L limit other _ _ _ _ l cs h (by simp) (by simp)

end Go.Proofs.YthemehdcakimgaiDoor
