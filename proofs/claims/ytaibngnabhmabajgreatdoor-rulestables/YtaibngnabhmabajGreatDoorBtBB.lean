/- MachineWalks: the walk. Package machine: Run. Runs, plainly: a greater limit; one ascending list. Runs, plainly: what is told is told for good. -/
import Derived.Test.YtaibngnabhmabajGreatDoorBtBA
import Derived.Test.YtaibngnabhmabajGreatDoorFld
import Derived.Test.YtaibngnabhmabajGreatDoorBtAN
namespace Go.Proofs.YtaibngnabhmabajGreatDoor
open Go.RowKit Go.Maps

theorem stvs_int : ∀ (l : List (List Int)) (m : Nat), m < (stvs l).length → ∃ x, (stvs l)[m]? = some (.int .i64 x) := fun l m hm => by
  have h : ∀ v, v ∈ stvs l → ∃ x, v = .int .i64 x := fun v hv => by
    unfold stvs at hv
    obtain ⟨y, _, h2⟩ := List.mem_flatMap.1 hv
    obtain ⟨x, _, rfl⟩ := List.mem_map.1 h2
    exact ⟨x, rfl⟩
  obtain ⟨x, hx⟩ := h _ (List.getElem_mem hm)
  exact ⟨x, by rw [List.getElem?_eq_getElem hm, hx]⟩
/-- a row of steps, cell by cell -/
theorem StR.cells {base : Nat} {w : World} {v : Value} {l : List (List Int)} (h : StR base w v l) (h0 : 0 < l.length) : ∃ g cap, v = .slice (some ⟨g, 0, none⟩) l.length cap ∧ l.length ≤ maxLen ∧ ∀ m x, (stvs l)[m]? = some (.int .i64 x) → w.cell? ⟨g, m, none⟩ = some (.int .i64 x) := by
  have h' := h
  rcases h.2 with ⟨_, hn⟩ | ⟨g, cap, cur, rfl, hb, hg, hn, hm, hs, ht⟩
  · omega
  · refine ⟨g, cap, rfl, by omega, fun m x hx => ?_⟩
    have := World.ownsRow.cells h' (g := g) rfl m _ hx
    have hadd : (⟨g, 0, none⟩ : Addr).add m = ⟨g, 0 + m, none⟩ := by unfold Addr.add; split <;> simp_all
    rw [hadd, Nat.zero_add] at this
    exact this
theorem StR.form {base : Nat} {w : World} {v : Value} {l : List (List Int)} (h : StR base w v l) : ∃ a c, v = .slice a l.length c := by
  rcases h.2 with ⟨rfl, h0⟩ | ⟨g, cap, cur, rfl, _⟩
  · exact ⟨none, 0, by rw [h0]⟩
  · exact ⟨_, _, rfl⟩

/-- what the program's Walk gives, the document's gives -/
theorem walks_both {p : Nat} {size limit : Int} {aL : Option Addr} {cL : Nat} {L : List InsZ} {w w1 w2 : World} {e : Ending} (h3 : 3 ≤ p) (h4 : p ≤ 2147483647) (hn : L.length ≤ 281474976710656) (hl : LstI w.heap.size w aL cL L) (hIB : InsB L) (h : WlR p size L limit w1 e w2) :
    ∃ v1 z l, e = .returned (.tuple #[v1, errV z]) ∧ StR w1.heap.size w2 v1 l ∧ ∀ W, Below w.heap.size w W → Calls Tryz.prog 52 #[.int .i64 p, .agg #[.int .i64 size, .slice aL L.length cL], .int .i64 limit] W fun e' W' => ∃ v2 x, e' = .returned (.tuple #[v2, x, .int .i64 z]) ∧ StR W.heap.size W' v2 l ∧ Below W.heap.size W W' := by
  obtain ⟨_, h2⟩ := h
  by_cases hz : fz6 (p : Int) size L.length limit ≠ 0
  · rw [if_pos hz] at h2
    refine ⟨_, _, [], h2, World.ownsRow_nil _ _ _ _, fun W hb => (rwalk_bad p size limit aL L.length cL W hn hz).mono ?_⟩
    rintro e' W' ⟨rfl, hb'⟩
    exact ⟨_, _, rfl, World.ownsRow_nil _ _ _ _, hb'⟩
  · rw [if_neg hz] at h2
    have hz0 : fz6 (p : Int) size L.length limit = 0 := Decidable.byContradiction hz
    have hfz : 0 ≤ size ∧ size ≤ 65536 ∧ 0 < L.length ∧ L.length ≤ 4096 ∧ L.length ≤ p ∧ 0 ≤ limit ∧ limit ≤ 16384 := by
      unfold fz6 at hz0
      split at hz0
      · omega
      · split at hz0
        · omega
        · refine ⟨by omega, by omega, by omega, by omega, by omega, by omega, by omega⟩
    obtain ⟨m, rfl⟩ := Int.eq_ofNat_of_zero_le hfz.2.2.2.2.2.1
    rw [Int.toNat_natCast] at h2
    have hR := fun (W : World) (hb : Below w.heap.size w W) => rwalk_any p m cL size aL L W h3 h4 hfz.1 hfz.2.1 hfz.2.2.1 hfz.2.2.2.1 hfz.2.2.2.2.1 (by omega) hIB ((hl.below hb).mono hb.size)
    cases hX : mwalk p size L m with
    | bad z =>
      rw [hX] at h2 hR
      refine ⟨_, z, [], h2, World.ownsRow_nil _ _ _ _, fun W hb => (hR W hb).mono ?_⟩
      rintro e' W' ⟨hb', he⟩
      exact ⟨_, _, he, World.ownsRow_nil _ _ _ _, hb'⟩
    | good l cs =>
      rw [hX] at h2 hR
      obtain ⟨v, h5, h6⟩ := h2
      refine ⟨v, 0, l, h5, h6, fun W hb => (hR W hb).mono ?_⟩
      rintro e' W' ⟨hb', v1, v2, he, hs, _⟩
      exact ⟨v1, v2, he, hs, hb'⟩
theorem error_same (z : Int) (w : World) (hL : Laid w) : Calls Tryz.prog 11 #[errV z, .int .i64 z] w fun e w' => e = .returned (.bool true) ∧ Below w.heap.size w w' := by
  by_cases hz : z = 0
  · subst hz
    refine (error_nil 0 w).mono ?_
    rintro e w' ⟨rfl, rfl⟩
    exact ⟨rfl, Below.refl _ _⟩
  · rw [errV_nz hz]
    refine (error_hit z z w hL).mono ?_
    rintro e w' ⟨rfl, hb⟩
    exact ⟨by simp, hb⟩

theorem eqI_runM (n : Nat) (a : Int) (w : World) : (Op.equalIn (n + 1) 3 (.int .i64 a) (.int .i64 a)).run Tryz.prog w = .ok true w := by
  simp [Op.equalIn, run_underlying Tryz.underlying3, Result.andThen]
theorem part_runM (cs : Array Value) (i : Nat) (v : Value) (h : cs[i]? = some v) (w : World) : (part 3 cs i).run Tryz.prog w = .ok v w := by
  simp [part, Tryz.isAgg3, h, Result.andThen]
theorem eq3_runM (n : Nat) (a0 a1 a2 : Int) (w : World) : (Op.equalIn (n + 1 + 1) 133 (.agg #[.int .i64 a0, .int .i64 a1, .int .i64 a2]) (.agg #[.int .i64 a0, .int .i64 a1, .int .i64 a2])).run Tryz.prog w = .ok true w := by
  have e : ∀ (x : Int), (Op.equalIn (n + 1) 3 (.int .i64 x) (.int .i64 x)).run Tryz.prog w = .ok true w := fun x => eqI_runM n x w
  unfold Op.equalIn
  simp only [Sem.run_bind, run_underlying Tryz.underlying133, Result.andThen_ok, Tryz.sizeOf3]
  have p0 : ∀ (x0 x1 x2 : Value), (part 3 #[x0, x1, x2] (0 * 1)).run Tryz.prog w = .ok x0 w := fun x0 x1 x2 => part_runM _ _ _ rfl w
  have p1 : ∀ (x0 x1 x2 : Value), (part 3 #[x0, x1, x2] (1 * 1)).run Tryz.prog w = .ok x1 w := fun x0 x1 x2 => part_runM _ _ _ rfl w
  have p2 : ∀ (x0 x1 x2 : Value), (part 3 #[x0, x1, x2] (2 * 1)).run Tryz.prog w = .ok x2 w := fun x0 x1 x2 => part_runM _ _ _ rfl w
  rw [Std.Legacy.Range.forIn_eq_forIn_range']
  show ((Sem.run Tryz.prog (forIn [0, 1, 2] _ _) w).andThen _) = _
  simp only [List.forIn_cons, List.forIn_nil, Sem.run_bind, p0, e, Result.andThen_ok]
  simp [p1, p2, e, Result.andThen]
theorem neq_step (y0 y1 y2 y3 y4 y5 y6 y7 y8 y9 : Int) (w : World) : (binOp BinOp.neq 135 (.agg #[.int .i64 y0, .int .i64 y1, .int .i64 y2, .int .i64 y3, .int .i64 y4, .int .i64 y5, .int .i64 y6, .int .i64 y7, .int .i64 y8, .int .i64 y9]) (.agg #[.int .i64 y0, .int .i64 y1, .int .i64 y2, .int .i64 y3, .int .i64 y4, .int .i64 y5, .int .i64 y6, .int .i64 y7, .int .i64 y8, .int .i64 y9])).run Tryz.prog w = .ok (.bool false) w := by
  have e3 : ∀ (x y z : Int), (Op.equalIn 9999 133 (.agg #[.int .i64 x, .int .i64 y, .int .i64 z]) (.agg #[.int .i64 x, .int .i64 y, .int .i64 z])).run Tryz.prog w = .ok true w := fun x y z => eq3_runM 9997 x y z w
  simp [go_sem, e3]

end Go.Proofs.YtaibngnabhmabajGreatDoor

namespace Go.Proofs.YtaibngnabhmabajGreatDoor
open Go.RowKit Go.Maps

theorem results_ctM {P : Program} {fn : Func} {p u : Tmp} {ty : TypeId} (h : fn.results = #[.cell p ty, .tmp u]) (tmps : Array Value) (w : World) (g : Nat) (tt : TypeId) (cs : Array Value) (fr : Nat × Nat) (d : TypeDesc)
    (hp : tmps.getD p undef = .pointer (some ⟨g, 0, none⟩)) (hg : w.heap[g]? = some (.cells cs tt fr))
    (hu : P.underlying ty = some d) (hd : (match d with | .struct _ | .array _ _ => true | _ => false) = true) (hi : (P.info? ty).map (·.size) = some cs.size) :
    (results fn tmps).run P w = .ok (.tuple #[.agg cs, tmps.getD u undef]) w := by
  have hp' : tmps[p]?.getD undef = .pointer (some ⟨g, 0, none⟩) := by simpa using hp
  simp [results, h, hp', asAddr, run_loadVar_row w g tt ty cs fr d hg hu hd hi]
theorem mgo_len (p : Nat) (L : List InsZ) (limit : Nat) : ∀ (f : Nat) (s : RM) (done l : List (List Int)) (cs : List (Int × Int)), mgo p L limit f s done = .good l cs → 0 < l.length ∧ l.length ≤ done.length + f
  | 0, _, _, _, _, h => by simp [mgo] at h
  | f + 1, s, done, l, cs, h => by
    rw [mgo] at h
    split at h
    · cases h
    · split at h
      · cases h
      · split at h
        · cases h
        · split at h
          · injection h with h1 _
            rw [← h1]
            simp
          · have := mgo_len p L limit f _ _ l cs h
            simp at this
            exact ⟨this.1, by omega⟩
theorem mgo_bad (p : Nat) (L : List InsZ) (limit : Nat) : ∀ (f : Nat) (s : RM) (done : List (List Int)) (z : Int), mgo p L limit f s done = .bad z → z ≠ 0
  | 0, _, _, _, h => by simp [mgo] at h; omega
  | f + 1, s, done, z, h => by
    rw [mgo] at h
    split at h
    · injection h with h; omega
    · split at h
      · injection h with h; omega
      · split at h
        · rename_i h1
          injection h with h
          rw [← h]
          exact h1
        · split at h
          · cases h
          · exact mgo_bad p L limit f _ _ z h
/-- what a run comes to: the first cell of its last step -/
def outv (l : List (List Int)) : Int := match (stvs l)[(l.length - 1) * 10 + 7]? with
  | some (.int _ x) => x
  | _ => 0
/-- what Run gives -/
def RuR (p : Nat) (size : Int) (L : List InsZ) (limit : Int) (w : World) (e : Ending) (w' : World) : Prop := Below w.heap.size w w' ∧
  if fz6 (p : Int) size L.length limit ≠ 0 then e = .returned (.tuple #[.agg #[.int .i64 0, .int .i64 0, .slice none 0 0], errV (fz6 (p : Int) size L.length limit)])
  else match mwalk p size L limit.toNat with
    | .bad z => e = .returned (.tuple #[.agg #[.int .i64 0, .int .i64 0, .slice none 0 0], errV z])
    | .good l cs => ∃ v l', e = .returned (.tuple #[.agg #[.int .i64 (outv l), .int .i64 ((l.length - 1 : Nat) : Int), v], .nilIface]) ∧ CelR w.heap.size w' v l' ∧ AscC cs l'

set_option maxRecDepth 100000 in
set_option maxHeartbeats 2000000 in
theorem prun_any (SO : SrtAs) (p b : Nat) (size limit : Int) (aL : Option Addr) (cL : Nat) (L : List InsZ) (w : World) (h3 : 3 ≤ p) (h4 : p ≤ 2147483647) (hpr : Num.Prime p) (hp : w.cell? ⟨b, 0, none⟩ = some (.int .i64 p)) (hn : L.length ≤ 281474976710656) (hL : LstI w.heap.size w aL cL L) (hIB : InsB L) :
    Calls Tryz.prog 23 #[.pointer (some ⟨b, 0, none⟩), .agg #[.int .i64 size, .slice aL L.length cL], .int .i64 limit] w (RuR p size L limit w) := by
  obtain ⟨V, hV⟩ : ∃ V, V = w.alloc (.cells #[.int .i64 size, .slice aL L.length cL] 47) := ⟨_, rfl⟩
  obtain ⟨W0, hW0⟩ : ∃ W0, W0 = V.alloc (.cells #[.int .i64 0, .int .i64 0, .slice none 0 0] 66) := ⟨_, rfl⟩
  have b1 : Below w.heap.size w V := by rw [hV]; exact (Below.refl _ _).alloc (Nat.le_refl _) _
  have hs : V.heap.size = w.heap.size + 1 := by rw [hV]; simp
  have b2 : Below V.heap.size V W0 := by rw [hW0]; exact (Below.refl _ _).alloc (Nat.le_refl _) _
  have hb0 := b1.trans (b2.mono b1.size)
  have hr0 : W0.heap[w.heap.size + 1]? = some (.cells #[.int .i64 0, .int .i64 0, .slice none 0 0] 66 (0, 0)) := by rw [hW0, ← hs]; exact heap_alloc_new V _
  have HWD := hid (pwalked_any p b size limit aL cL L W0 h3 h4 hpr ((hb0.cell (p := ⟨b, 0, none⟩) (World.block_lt_of_cell? _ _ hp)).trans hp) hn ((hL.below hb0).mono hb0.size) hIB)
  have HB0 := hid hb0
  have HR0 := hid hr0
  have HSO := hid SO
  obtain ⟨nL, hnL⟩ : ∃ nL, nL = L.length := ⟨_, rfl⟩
  rw [← hnL] at HWD hV ⊢
  rw [hV] at hW0
  clear b1 hs b2 hb0 hr0 hV hp hn hL hIB hpr SO h3 h4 hnL
  go_enter Tryz.func23, Tryz.ntmps23
  go_wp2_with fail
  rw [← hW0]
  clear hW0
  refine HWD.out.mono ?_
  rintro e w1 ⟨hb1, hr1⟩
  have HR1 := hid ((hb1.block _ (Array.getElem?_eq_some_iff.1 HR0.out).1).trans HR0.out)
  have HB1 := hid (HB0.out.trans (hb1.mono HB0.out.size))
  have d0 : w1.cell? ⟨w.heap.size + 1, 0, none⟩ = some (.int .i64 0) := by simp [World.cell?, HR1.out]
  have d1 : w1.cell? ⟨w.heap.size + 1, 1, none⟩ = some (.int .i64 0) := by simp [World.cell?, HR1.out]
  have d2 : w1.cell? ⟨w.heap.size + 1, 2, none⟩ = some (.slice none 0 0) := by simp [World.cell?, HR1.out]
  have df := (row3_of HR1.out).frozen
  have HCASE : Hid ((∃ z, z ≠ 0 ∧ e = .returned (.tuple #[.slice none 0 0, .map none, errV z]) ∧ ∀ w', Below w.heap.size w w' → RuR p size L limit w (.returned (.tuple #[.agg #[.int .i64 0, .int .i64 0, .slice none 0 0], errV z])) w') ∨ ∃ l cs v B, 0 < l.length ∧ l.length ≤ 16385 ∧ e = .returned (.tuple #[v, .map (some B), .nilIface]) ∧ StR W0.heap.size w1 v l ∧ MapAt w1 B (1 + 2 * l.length) cs ∧ ∀ w' v l', Below w.heap.size w w' → CelR w.heap.size w' v l' → AscC cs l' → RuR p size L limit w (.returned (.tuple #[.agg #[.int .i64 (outv l), .int .i64 ((l.length - 1 : Nat) : Int), v], .nilIface])) w') := by
    by_cases hz : fz6 (p : Int) size L.length limit ≠ 0
    · rw [if_pos hz] at hr1
      exact .inl ⟨_, hz, hr1, fun w' hb => ⟨hb, by rw [if_pos hz]⟩⟩
    · rw [if_neg hz] at hr1
      have hlm : 0 ≤ limit ∧ limit ≤ 16384 := by
        have hz0 : fz6 (p : Int) size L.length limit = 0 := Decidable.byContradiction hz
        unfold fz6 at hz0
        split at hz0
        · omega
        · split at hz0 <;> omega
      cases hX : mwalk p size L limit.toNat with
      | bad z =>
        rw [hX] at hr1
        exact .inl ⟨z, mgo_bad _ _ _ _ _ _ _ hX, hr1, fun w' hb => ⟨hb, by rw [if_neg hz, hX]⟩⟩
      | good l cs =>
        rw [hX] at hr1
        obtain ⟨v, B, h1, h2, h5⟩ := hr1
        have hln := mgo_len _ _ _ _ _ _ _ _ hX
        refine .inr ⟨l, cs, v, B, hln.1, by have := hln.2; simp at this; omega, h1, h2, h5, fun w' v' l' hb hc ha => ⟨hb, ?_⟩⟩
        rw [if_neg hz, hX]
        exact ⟨v', l', rfl, hc, ha⟩
  clear hr1 HWD HR0 HB0
  rcases HCASE.out with ⟨z, hz, rfl, hE⟩ | ⟨l, cs, v, B, hl0, hl1, rfl, hs1, hm1, hE⟩
  · rw [errV_nz hz] at hE ⊢
    have HP3 := hid (put3_heap HR1.out (.int .i64 0) (.int .i64 0) (.slice none 0 0))
    have HE := hid (hE _ (put3_below HB1.out (Nat.le_succ _) (g := w.heap.size + 1) (.int .i64 0) (.int .i64 0) (.slice none 0 0)))
    clear hE HCASE hz HSO hb1
    go_wp2_with fail
    (try simp only [Exit.inBlock, Exit.then])
    refine bodyPost_ret (results_ctM rfl _ _ (w.heap.size + 1) 66 #[.int .i64 0, .int .i64 0, .slice none 0 0] (0, 0) _ rfl HP3.out Tryz.underlying66 rfl (by kernel_rfl)) rfl ?_
    exact HE.out
  · obtain ⟨av, cv, rfl⟩ := hs1.form
    obtain ⟨g, cap, e1, _, hcl⟩ := hs1.cells hl0
    injection e1 with e1 _ e3
    subst e1 e3
    obtain ⟨o, ho⟩ := stvs_int l ((l.length - 1) * 10 + 7) (by rw [hs1.1]; omega)
    have hou : outv l = o := by unfold outv; rw [ho]
    rw [hou] at hE
    have ko := hcl _ _ ho
    have HAS := hid (fun W (h : MapAt W B (1 + 2 * l.length) cs) => pasc_any HSO.out B (1 + 2 * l.length) cs W h (by omega))
    obtain ⟨n, hn⟩ : ∃ n, n = l.length := ⟨_, rfl⟩
    rw [← hn] at hl0 hl1 hm1 hE HAS ko ⊢
    obtain ⟨k, hk⟩ : ∃ k, n = k + 1 := ⟨n - 1, by omega⟩
    subst hk
    rw [Nat.add_sub_cancel] at ko hE
    have hsub : IntKind.i64.wrap (((k + 1 : Nat) : Int) - 1) = (k : Int) := by rw [IntKind.wrap_i64]; omega
    have HM1 := hid hm1
    have HEE := hid hE
    have hkl : (k : Int) < ((k + 1 : Nat) : Int) := by omega
    clear hE HCASE hs1 hcl ho hou hn hm1 HSO hb1
    go_wp2_with fail
    refine wp_region_held_drew (S := (fun W => W.cell? ⟨g, k * 10 + 7, none⟩ = some (.int .i64 o))) (by kernel_rfl) ko (fun hHeld => ?_)
    refine wpAnyH_takeW (i := 0) (v := .slice (some ⟨g, 0, none⟩) (k + 1) cv) rfl (by kernel_rfl) (by kernel_rfl) (by kernel_rfl) (fun _ _ _ h => h) (by rfl) (fun W hC => by go_simp) hHeld ?_
    simp only [Act.put, List.setIfInBounds_toArray, List.set_cons_zero, List.set_cons_succ]
    refine wpAnyH_takeW (i := 1) (v := .int .i64 (k : Int)) rfl (by kernel_rfl) (by kernel_rfl) (by kernel_rfl) (fun _ _ _ h => h) (by rfl) (fun W hC => by go_simp) hHeld ?_
    simp only [Act.put, List.setIfInBounds_toArray, List.set_cons_zero, List.set_cons_succ]
    refine wpAnyH_takeW (i := 2) (v := .pointer (some ⟨g, k * 10, none⟩)) rfl (by kernel_rfl) (by kernel_rfl) (by kernel_rfl) (fun _ _ _ h => h) (by rfl) (fun W hC => by (go_simp; intro hh; omega)) hHeld ?_
    simp only [Act.put, List.setIfInBounds_toArray, List.set_cons_zero, List.set_cons_succ]
    refine wpAnyH_takeW (i := 3) (v := .pointer (some ⟨g, k * 10 + 7, none⟩)) rfl (by kernel_rfl) (by kernel_rfl) (by kernel_rfl) (fun _ _ _ h => h) (by rfl) (fun W hC => by go_simp) hHeld ?_
    simp only [Act.put, List.setIfInBounds_toArray, List.set_cons_zero, List.set_cons_succ]
    refine wpAnyH_takeW (i := 4) (v := .pointer (some ⟨g, k * 10 + 7, none⟩)) rfl (by kernel_rfl) (by kernel_rfl) (by kernel_rfl) (fun _ _ _ h => h) (by rfl) (fun W hC => by go_simp) hHeld ?_
    simp only [Act.put, List.setIfInBounds_toArray, List.set_cons_zero, List.set_cons_succ]
    refine wpAnyH_takeW (i := 5) (v := .int .i64 o) rfl (by kernel_rfl) (by kernel_rfl) (by kernel_rfl) (fun _ _ _ h => h) (by rfl) (fun W hC => by go_simp) hHeld ?_
    simp only [Act.put, List.setIfInBounds_toArray, List.set_cons_zero, List.set_cons_succ]
    refine wpAnyH_takeW (i := 6) (v := .int .i64 (k : Int)) rfl (by kernel_rfl) (by kernel_rfl) (by kernel_rfl) (fun _ _ _ h => h) (by rfl) (fun W hC => by go_simp) hHeld ?_
    simp only [Act.put, List.setIfInBounds_toArray, List.set_cons_zero, List.set_cons_succ]
    refine wpAnyH_takeW (i := 7) (v := .map (some B)) rfl (by kernel_rfl) (by kernel_rfl) (by kernel_rfl) (fun _ _ _ h => h) (by rfl) (fun W hC => by go_simp) hHeld ?_
    simp only [Act.put, List.setIfInBounds_toArray, List.set_cons_zero, List.set_cons_succ]
    refine wpAnyH_ready (rs := [8]) (by kernel_rfl) (by simp) ?_
    refine AllReadyH.consW rfl (fun K hK => ?_) AllReadyH.nil
    go_simp
    refine (HAS.out w1.drew HM1.out).mono ?_
    rintro e w2 ⟨v, l', rfl, hcl, hasc, hb2⟩
    have hb12 : Below w1.heap.size w1 w2 := ⟨hb2.os, hb2.tape, hb2.output, hb2.size, hb2.block⟩
    obtain ⟨a2, c2, rfl⟩ := hcl.form
    have ko2 := (hb12.cell (p := ⟨g, k * 10 + 7, none⟩) (World.block_lt_of_cell? _ _ ko)).trans ko
    have HR2 := hid ((hb12.block _ (Array.getElem?_eq_some_iff.1 HR1.out).1).trans HR1.out)
    have HB2 := hid (HB1.out.trans (hb12.mono HB1.out.size))
    have HCL := hid hcl
    have HAC := hid hasc
    have hlt1 := hb12.size
    have HGE : Hid (w.heap.size + 1 < w1.heap.size) := (Array.getElem?_eq_some_iff.1 HR1.out).1
    have HGG : Hid (g ≠ w.heap.size + 1) := by
      rintro rfl
      have h5 := World.block_lt_of_cell? _ _ ko
      have h6 := ko
      have h7 := HR1.out
      have : (k * 10 + 7) < 3 := by
        simp only [World.cell?, h7] at h6
        obtain ⟨h8, _⟩ := Array.getElem?_eq_some_iff.1 h6
        simpa using h8
      omega
    refine hK.out _ _ ko2 (fun hHeld => ?_)
    clear hK K hcl hasc hb2 hb12 d0 d1 d2 df HAS HM1
    have d0 : w2.cell? ⟨w.heap.size + 1, 0, none⟩ = some (.int .i64 0) := by simp [World.cell?, HR2.out]
    have d1 : w2.cell? ⟨w.heap.size + 1, 1, none⟩ = some (.int .i64 0) := by simp [World.cell?, HR2.out]
    have d2 : w2.cell? ⟨w.heap.size + 1, 2, none⟩ = some (.slice none 0 0) := by simp [World.cell?, HR2.out]
    have df := (row3_of HR2.out).frozen
    refine wpAnyH_takeW (i := 9) (v := .agg #[.int .i64 o, .int .i64 (k : Int), .slice a2 l'.length c2]) rfl (by kernel_rfl) (by kernel_rfl) (by kernel_rfl) (fun _ _ _ h => h) (by rfl) (fun W hC => by go_simp) hHeld ?_
    simp only [Act.put, List.setIfInBounds_toArray, List.set_cons_zero, List.set_cons_succ]
    have HP3 := hid (put3_heap HR2.out (.int .i64 o) (.int .i64 (k : Int)) (.slice a2 l'.length c2))
    have HK3 : Hid ((((w2.setCell ⟨w.heap.size + 1, 0, none⟩ (.int .i64 o)).setCell ⟨w.heap.size + 1, 1, none⟩ (.int .i64 (k : Int))).setCell ⟨w.heap.size + 1, 2, none⟩ (.slice a2 l'.length c2)).cell? ⟨g, k * 10 + 7, none⟩ = some (.int .i64 o)) := by
      refine (World.cell?_of_block (w := w2) (a := ⟨g, k * 10 + 7, none⟩) ?_).trans ko2
      rw [Below.heap_setCell _ _ _ _ HGG.out, Below.heap_setCell _ _ _ _ HGG.out, Below.heap_setCell _ _ _ _ HGG.out]
    have HEND := hid (HEE.out (((w2.setCell ⟨w.heap.size + 1, 0, none⟩ (.int .i64 o)).setCell ⟨w.heap.size + 1, 1, none⟩ (.int .i64 (k : Int))).setCell ⟨w.heap.size + 1, 2, none⟩ (.slice a2 l'.length c2)) (.slice a2 l'.length c2) l' (put3_below HB2.out (Nat.le_succ _) (g := w.heap.size + 1) _ _ _) (by
      refine ⟨HCL.out.1, ?_⟩
      have hge := HGE.out
      rcases HCL.out.2 with hn | ⟨g', cap', cur, e1, hb', hg', rest⟩
      · exact .inl hn
      · refine .inr ⟨g', cap', cur, e1, ?_, ?_, rest⟩
        · have h9 : w1.heap.size ≤ g' := hb'
          omega
        · have h9 : w1.heap.size ≤ g' := hb'
          rw [Below.heap_setCell _ _ _ _ (by show g' ≠ w.heap.size + 1; omega), Below.heap_setCell _ _ _ _ (by show g' ≠ w.heap.size + 1; omega), Below.heap_setCell _ _ _ _ (by show g' ≠ w.heap.size + 1; omega)]
          exact hg') HAC.out)
    refine wpAnyH_ready (rs := [10]) (by kernel_rfl) (by simp) ?_
    refine AllReadyH.consW rfl (fun K hK => ?_) AllReadyH.nil
    go_simp
    refine hK.out _ _ HK3.out (fun hHeld => ?_)
    clear hK K
    refine wpAnyH_takeW (i := 11) (v := .nilIface) rfl (by kernel_rfl) (by kernel_rfl) (by kernel_rfl) (fun _ _ _ h => h) (by rfl) (fun W hC => by go_simp) hHeld ?_
    simp only [Act.put, List.setIfInBounds_toArray, List.set_cons_zero, List.set_cons_succ]
    refine wpAnyH_done (by kernel_rfl) ?_ _
    clear hHeld ko ko2 HEE HCL HAC HK3 HR2 HR1 d0 d1 d2 df
    go_wp2_with fail
    (try simp only [Exit.inBlock, Exit.then])
    refine bodyPost_ret (results_ctM rfl _ _ (w.heap.size + 1) 66 #[.int .i64 o, .int .i64 (k : Int), .slice a2 l'.length c2] (0, 0) _ rfl HP3.out Tryz.underlying66 rfl (by kernel_rfl)) rfl ?_
    exact HEND.out

end Go.Proofs.YtaibngnabhmabajGreatDoor

namespace Go.Proofs.YtaibngnabhmabajGreatDoor
open Go.RowKit Go.Maps

theorem asc_pairs : ∀ {us vs : List (Int × Int)}, us.Pairwise (fun a b => a.1 < b.1) → vs.Pairwise (fun a b => a.1 < b.1) → (∀ x, x ∈ us ↔ x ∈ vs) → us = vs
  | [], [], _, _, _ => rfl
  | [], v :: vs, _, _, h => by have := (h v).2 (List.mem_cons_self ..); cases this
  | u :: us, [], _, _, h => by have := (h u).1 (List.mem_cons_self ..); cases this
  | u :: us, v :: vs, hu, hv, h => by
    rw [List.pairwise_cons] at hu hv
    have huv : u = v := by
      rcases List.mem_cons.1 ((h u).1 (List.mem_cons_self ..)) with e | e
      · exact e
      · rcases List.mem_cons.1 ((h v).2 (List.mem_cons_self ..)) with e2 | e2
        · exact e2.symm
        · have h1 := hv.1 u e
          have h2 := hu.1 v e2
          omega
    subst huv
    congr 1
    refine asc_pairs hu.2 hv.2 (fun x => ?_)
    constructor
    · intro hx
      rcases List.mem_cons.1 ((h x).1 (List.mem_cons_of_mem _ hx)) with e | e
      · subst e
        have := hu.1 x hx
        omega
      · exact e
    · intro hx
      rcases List.mem_cons.1 ((h x).2 (List.mem_cons_of_mem _ hx)) with e | e
      · subst e
        have := hv.1 x hx
        omega
      · exact e
theorem AscC.unique {cs l1 l2 : List (Int × Int)} (h1 : AscC cs l1) (h2 : AscC cs l2) : l1 = l2 := asc_pairs h1.1 h2.1 (fun x => by
  obtain ⟨a, b⟩ := x
  rw [h1.2 a b, h2.2 a b])
theorem mgo_more (p : Nat) (L : List InsZ) (limit : Nat) : ∀ (f : Nat) (s : RM) (done l : List (List Int)) (cs : List (Int × Int)), mgo p L limit f s done = .good l cs → done.length < l.length
  | 0, _, _, _, _, h => by simp [mgo] at h
  | f + 1, s, done, l, cs, h => by
    rw [mgo] at h
    split at h
    · cases h
    · split at h
      · cases h
      · split at h
        · cases h
        · split at h
          · injection h with h1 _
            rw [← h1]
            simp
          · have := mgo_more p L limit f _ _ l cs h
            simp at this
            omega
/-- another limit -/
theorem mgo_other (p : Nat) (L : List InsZ) (limit other : Nat) : ∀ (f f2 : Nat) (s : RM) (done l : List (List Int)) (cs : List (Int × Int)), mgo p L limit f s done = .good l cs → done.length ≤ other → done.length + f2 = other + 1 → mgo p L other f2 s done = if other < l.length - 1 then .bad 8 else .good l cs
  | 0, _, _, _, _, _, h, _, _ => by simp [mgo] at h
  | f + 1, 0, _, _, _, _, _, h1, h2 => by omega
  | f + 1, f2 + 1, s, done, l, cs, h, h1, h2 => by
    have hm := mgo_more p L limit _ _ _ _ _ h
    rw [mgo] at h ⊢
    split at h
    · cases h
    · rename_i hpc
      rw [if_neg hpc]
      split at h
      · cases h
      · rename_i hlm
        split at h
        · cases h
        · rename_i her
          split at h
          · rename_i hop
            rw [if_neg (fun hh => hh.2 hop), if_neg her, if_pos hop]
            injection h with e1 e2
            have hl : l.length = done.length + 1 := by rw [← e1]; simp
            rw [if_neg (by omega), e1, e2]
          · rename_i hop
            have hm2 := mgo_more p L limit _ _ _ _ _ h
            simp at hm2
            by_cases hd : done.length = other
            · rw [if_pos ⟨hd, hop⟩, if_pos (by omega)]
            · rw [if_neg (fun hh => hd hh.1), if_neg her, if_neg hop]
              exact mgo_other p L limit other f f2 _ _ l cs h (by simp; omega) (by simp; omega)
theorem mwalk_other {p : Nat} {size : Int} {L : List InsZ} {limit : Nat} (other : Nat) {l : List (List Int)} {cs : List (Int × Int)} (h : mwalk p size L limit = .good l cs) : mwalk p size L other = if other < l.length - 1 then .bad 8 else .good l cs :=
  mgo_other p L limit other _ _ _ _ l cs h (by simp) (by simp)

end Go.Proofs.YtaibngnabhmabajGreatDoor

namespace Go.Proofs.YtaibngnabhmabajGreatDoor
open Go.RowKit Go.Maps

/-- what a machine shows is told, and what was told stays -/
def Okk (p : Nat) (cs0 : List (Int × Int)) (s : RM) : Prop := s.err = 0 → Zer s.cs ∧ (∀ j, 0 ≤ finz s.cs (s.at' j) ∧ cvl s.cs (s.at' j) = s.is' j) ∧ (∀ u, 0 ≤ finz cs0 u → 0 ≤ finz s.cs u ∧ cvl s.cs u = cvl cs0 u) ∧ (∀ u, 0 ≤ finz s.cs u → 0 ≤ u ∧ u < p)
theorem upd_two (f g : Nat → Int) (k : Nat) (x y : Int) (j : Nat) : (updM f k x j = x ∧ updM g k y j = y) ∨ (updM f k x j = f j ∧ updM g k y j = g j) := by
  unfold updM
  split
  · exact .inl ⟨rfl, rfl⟩
  · exact .inr ⟨rfl, rfl⟩
theorem okk_look {p : Nat} {cs0 : List (Int × Int)} {s : RM} (h : Okk p cs0 s) (x : Int) : Okk p cs0 (s.look x).1 := by
  by_cases he : s.err = 0
  · obtain ⟨h1, h2, h3, h4⟩ := h he
    rw [look_eq he]
    by_cases hx : 0 ≤ finz s.cs x
    · rw [if_pos hx]
      intro _
      refine ⟨h1, fun j => ?_, h3, h4⟩
      show 0 ≤ finz s.cs (updM s.at' s.slot x j) ∧ cvl s.cs (updM s.at' s.slot x j) = updM s.is' s.slot (cvl s.cs x) j
      rcases upd_two s.at' s.is' s.slot x (cvl s.cs x) j with ⟨e1, e2⟩ | ⟨e1, e2⟩
      · rw [e1, e2]; exact ⟨hx, rfl⟩
      · rw [e1, e2]; exact h2 j
    · rw [if_neg hx]
      intro e
      exact absurd (show (10 : Int) = 0 from e) (by decide)
  · rw [look_err he]
    exact h
theorem okk_tell {p : Nat} {cs0 : List (Int × Int)} {s : RM} (h : Okk p cs0 s) (x y : Int) (hx : 0 ≤ x ∧ x < p) : Okk p cs0 (s.tell p x y) := by
  by_cases he : s.err = 0
  · obtain ⟨h1, h2, h3, h4⟩ := h he
    rw [tell_eq he]
    by_cases ht : (tel s.cs x (y % (p : Int))).1 = 0
    · rw [if_pos ht]
      intro _
      have hxx : 0 ≤ finz (tel s.cs x (y % (p : Int))).2 x := by rw [(tel_same ht).1]; exact tld_finz.2 (.inr rfl)
      refine ⟨h1.tel ht, fun j => ?_, fun u hu => ?_, fun u hu => ?_⟩
      · show 0 ≤ finz (tel s.cs x (y % (p : Int))).2 (updM s.at' s.slot x j) ∧ cvl (tel s.cs x (y % (p : Int))).2 (updM s.at' s.slot x j) = updM s.is' s.slot (y % (p : Int)) j
        rcases upd_two s.at' s.is' s.slot x (y % (p : Int)) j with ⟨e1, e2⟩ | ⟨e1, e2⟩
        · rw [e1, e2]; exact ⟨hxx, tel_is ht⟩
        · rw [e1, e2]
          have hk := tel_keep ht (h2 j).1
          exact ⟨hk.2, hk.1.trans (h2 j).2⟩
      · have hk := tel_keep ht (h3 u hu).1
        exact ⟨hk.2, hk.1.trans (h3 u hu).2⟩
      · have hu' : 0 ≤ finz (tel s.cs x (y % (p : Int))).2 u := hu
        rw [(tel_same ht).1] at hu'
        rcases tld_finz.1 hu' with h5 | h5
        · exact h4 u h5
        · rw [h5]; exact hx
    · rw [if_neg ht]
      intro e
      exact absurd (show (7 : Int) = 0 from e) (by decide)
  · rw [tell_err he]
    exact h
theorem okk_must {p : Nat} {cs0 : List (Int × Int)} {s : RM} (h : Okk p cs0 s) (b : Bool) : Okk p cs0 (s.must b) := by
  unfold RM.must
  split
  · intro e
    exact absurd (show (7 : Int) = 0 from e) (by decide)
  · exact h
theorem okk_rck {p : Nat} {cs0 : List (Int × Int)} {s : RM} (h : Okk p cs0 s) (op y : Int) : Okk p cs0 (s.rck op y) := by
  unfold RM.rck
  split
  · exact okk_must h _
  · exact h
theorem okk_step {p : Nat} {cs0 : List (Int × Int)} {s : RM} (hp : 3 ≤ p) (h : Okk p cs0 s) (hr : 0 ≤ s.ap ∧ s.ap < p) (op a b c : Int) : Okk p cs0 (s.step p op a b c).1 := by
  have e := fun x => emod_bounds x p hp
  unfold RM.step
  split
  · unfold RM.three
    exact okk_tell (okk_rck (okk_look (okk_look h _) _) _ _) _ _ (e _)
  · split
    · exact okk_tell h _ _ (e _)
    · split
      · exact okk_must (okk_look (okk_look h _) _) _
      · split
        · exact h
        · split
          · exact okk_look h _
          · split
            · exact okk_tell (okk_tell h _ _ hr) _ _ (e _)
            · split
              · exact okk_look (okk_look (okk_look h _) _) _
              · split
                · exact okk_tell h _ _ (e _)
                · split
                  · exact okk_tell (okk_look h _) _ _ (e _)
                  · split
                    · exact okk_look h _
                    · intro e
                      exact absurd (show (7 : Int) = 0 from e) (by decide)
/-- a step's three cells, as they are told -/
def Tld3 (cs : List (Int × Int)) (x : List Int) : Prop := ∀ j, j < 3 → 0 ≤ finz cs (x.getD (4 + j) 0) ∧ cvl cs (x.getD (4 + j) 0) = x.getD (7 + j) 0
theorem now_tld {p : Nat} {cs0 : List (Int × Int)} {s : RM} (h : Okk p cs0 s) (he : s.err = 0) : Tld3 s.cs s.now ∧ s.now.length = 10 := by
  refine ⟨fun j hj => ?_, rfl⟩
  have h2 := (h he).2.1
  have : j = 0 ∨ j = 1 ∨ j = 2 := by omega
  rcases this with rfl | rfl | rfl
  · exact h2 0
  · exact h2 1
  · exact h2 2
theorem okk_fresh {p : Nat} {cs : List (Int × Int)} (hz : Zer cs) (hb : ∀ u, 0 ≤ finz cs u → 0 ≤ u ∧ u < (p : Int)) (n : Rg) : Okk p cs (freshM cs n) := fun _ => ⟨hz, fun _ => hz, fun _ hu => ⟨hu, rfl⟩, hb⟩
theorem mgo_once (p : Nat) (L : List InsZ) (limit : Nat) (hp : 3 ≤ p) : ∀ (f : Nat) (k : Nat) (n : Rg) (cs1 : List (Int × Int)) (done l : List (List Int)) (cs : List (Int × Int)), mgo p L limit f (freshM cs1 n) done = .good l cs → Zer cs1 → (∀ u, 0 ≤ finz cs1 u → 0 ≤ u ∧ u < (p : Int)) → SOk p k 0 (freshM cs1 n) → RgB p n → (∀ x, x ∈ done → Tld3 cs1 x ∧ x.length = 10) →
    Zer cs ∧ (∀ u, 0 ≤ finz cs u → 0 ≤ u ∧ u < (p : Int)) ∧ ∀ x, x ∈ l → Tld3 cs x ∧ x.length = 10
  | 0, _, _, _, _, _, _, h, _, _, _, _, _ => by simp [mgo] at h
  | f + 1, k, n, cs1, done, l, cs, h, hz, hb, hs, hr, hd => by
    rw [mgo] at h
    split at h
    · cases h
    · split at h
      · cases h
      · split at h
        · cases h
        · rename_i her
          generalize hop : (insat L (freshM cs1 n).pc.toNat).op = op at h her
          generalize (insat L (freshM cs1 n).pc.toNat).a = a at h her
          generalize (insat L (freshM cs1 n).pc.toNat).b = b at h her
          generalize (insat L (freshM cs1 n).pc.toNat).c = c at h her
          have he0 : ((freshM cs1 n).step p op a b c).1.err = 0 := Decidable.byContradiction her
          have hk := okk_step hp (okk_fresh hz hb n) hr.2.2.1 op a b c
          have hso := step_ok hp hs hr op a b c
          have hnow := now_tld hk he0
          obtain ⟨g1, g2, g3, g4⟩ := hk he0
          have hall : ∀ x, x ∈ done ++ [((freshM cs1 n).step p op a b c).1.now] → Tld3 ((freshM cs1 n).step p op a b c).1.cs x ∧ x.length = 10 := fun x hx => by
            rcases List.mem_append.1 hx with hx | hx
            · obtain ⟨hd1, hd2⟩ := hd x hx
              exact ⟨fun j hj => ⟨(g3 _ (hd1 j hj).1).1, (g3 _ (hd1 j hj).1).2.trans (hd1 j hj).2⟩, hd2⟩
            · rw [List.mem_singleton] at hx
              rw [hx]
              exact hnow
          split at h
          · injection h with h1 h2
            rw [← h1, ← h2]
            exact ⟨g1, g4, hall⟩
          · exact mgo_once p L limit hp f (k + 2) _ _ _ l cs h g1 g4 ⟨hso.1.1, hso.1.2.1, fun _ => Nat.le_refl _⟩ hso.2 hall
theorem mwalk_once {p : Nat} {size : Int} {L : List InsZ} {limit : Nat} {l : List (List Int)} {cs : List (Int × Int)} (hp : 3 ≤ p) (h : mwalk p size L limit = .good l cs) :
    Zer cs ∧ (∀ u, 0 ≤ finz cs u → 0 ≤ u ∧ u < (p : Int)) ∧ ∀ x, x ∈ l → Tld3 cs x ∧ x.length = 10 := by
  refine mgo_once p L limit hp _ 1 _ _ _ l cs h zer_first (fun u hu => ?_) ⟨fun j hj => ?_, Nat.le_refl _, fun _ => Nat.le_refl _⟩ ⟨⟨Int.le_refl _, by show (0 : Int) < p; omega⟩, ⟨by show (0 : Int) ≤ 1; omega, by show (1 : Int) < p; omega⟩, emod_bounds _ p hp, ⟨Int.le_refl _, by show (0 : Int) < p; omega⟩⟩ (fun x hx => by cases hx)
  · have : u = 0 := by
      rcases finz_cases [(0, 0)] u with e | ⟨i, _, hi, he⟩
      · omega
      · have : i = 0 := by simpa using hi
        subst this
        simpa [cat] using he.symm
    subst this
    exact ⟨Int.le_refl _, by omega⟩
  · have : j = 0 := by simpa [freshM] using hj
    subst this
    show 0 ≤ (0 : Int) ∧ (0 : Int) < p
    omega

end Go.Proofs.YtaibngnabhmabajGreatDoor
