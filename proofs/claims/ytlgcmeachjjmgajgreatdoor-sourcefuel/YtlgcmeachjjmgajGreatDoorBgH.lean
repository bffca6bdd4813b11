/- Package machine: Run. Runs, plainly: a greater limit; one ascending list. attestlaw6: rans, plain. attestlaw6: plain, lives. slices.SortFunc at cells: laid for this program. Package machine: slices.SortFunc at cells. Package machine: slices.SortFunc at cells, whole. Programs as text, plainly: tokens, trees, the grammar. Programs as text, plainly: the grammar ends. -/
import Derived.Test.YtlgcmeachjjmgajGreatDoorBgG
import Derived.Test.YtlgcmeachjjmgajGreatDoorFld
import Derived.Shelf.SlLaysF0
import Derived.Test.YtlgcmeachjjmgajGreatDoorProg
import Derived.Shelf.SlSortCmp.WholeK
import Derived.Lib.Small
import Derived.Shelf.SlSortCmp.NoneTotal
namespace Go.Proofs.YtlgcmeachjjmgajGreatDoor
open Go.RowKit Go.Maps

theorem results_ctM {P : Program} {fn : Func} {p u : Tmp} {ty : TypeId} (h : fn.results = #[.cell p ty, .tmp u]) (tmps : Array Value) (w : World) (g : Nat) (tt : TypeId) (cs : Array Value) (fr : Nat × Nat) (d : TypeDesc)
    (hp : tmps.getD p undef = .pointer (some ⟨g, 0, none⟩)) (hg : w.heap[g]? = some (.cells cs tt fr))
    (hu : P.underlying ty = some d) (hd : (match d with | .struct _ | .array _ _ => true | _ => false) = true) (hi : (P.info? ty).map (·.size) = some cs.size) :
    (results fn tmps).run P w = .ok (.tuple #[.agg cs, tmps.getD u undef]) w := by
  have hp' : tmps[p]?.getD undef = .pointer (some ⟨g, 0, none⟩) := by simpa using hp
  simp [results, h, hp', asAddr, run_loadVar_row w g tt ty cs fr d hg hu hd hi]
theorem mgo_len (p : Nat) (L : List InsZ) (limit : Nat) : ∀ (f : Nat) (s : RM) (done l : List (List Int)) (cs : List (Int × Int)), mgo p L limit f s done = .good l cs → 0 < l.length ∧ l.length ≤ done.length + f
  | 0, _, _, _, _, h => by simp [mgo] at h
  | f + 1, s, done, l, cs, h => by
    rw [mgo] at h
    split at h
    · cases h
    · split at h
      · cases h
      · split at h
        · cases h
        · split at h
          · injection h with h1 _
            rw [← h1]
            simp
          · have := mgo_len p L limit f _ _ l cs h
            simp at this
            exact ⟨this.1, by omega⟩
theorem mgo_bad (p : Nat) (L : List InsZ) (limit : Nat) : ∀ (f : Nat) (s : RM) (done : List (List Int)) (z : Int), mgo p L limit f s done = .bad z → z ≠ 0
  | 0, _, _, _, h => by simp [mgo] at h; omega
  | f + 1, s, done, z, h => by
    rw [mgo] at h
    split at h
    · injection h with h; omega
    · split at h
      · injection h with h; omega
      · split at h
        · rename_i h1
          injection h with h
          rw [← h]
          exact h1
        · split at h
          · cases h
          · exact mgo_bad p L limit f _ _ z h
/-- what a run comes to: the first cell of its last step -/
def outv (l : List (List Int)) : Int := match (stvs l)[(l.length - 1) * 10 + 7]? with
  | some (.int _ x) => x
  | _ => 0
/-- what Run gives -/
def RuR (p : Nat) (size : Int) (L : List InsZ) (limit : Int) (w : World) (e : Ending) (w' : World) : Prop := Below w.heap.size w w' ∧
  if fz6 (p : Int) size L.length limit ≠ 0 then e = .returned (.tuple #[.agg #[.int .i64 0, .int .i64 0, .slice none 0 0], errV (fz6 (p : Int) size L.length limit)])
  else match mwalk p size L limit.toNat with
    | .bad z => e = .returned (.tuple #[.agg #[.int .i64 0, .int .i64 0, .slice none 0 0], errV z])
    | .good l cs => ∃ v l', e = .returned (.tuple #[.agg #[.int .i64 (outv l), .int .i64 ((l.length - 1 : Nat) : Int), v], .nilIface]) ∧ CelR w.heap.size w' v l' ∧ AscC cs l'

set_option maxRecDepth 100000 in
set_option maxHeartbeats 2000000 in
theorem prun_any (SO : SrtAs) (p b : Nat) (size limit : Int) (aL : Option Addr) (cL : Nat) (L : List InsZ) (w : World) (h3 : 3 ≤ p) (h4 : p ≤ 2147483647) (hpr : Num.Prime p) (hp : w.cell? ⟨b, 0, none⟩ = some (.int .i64 p)) (hn : L.length ≤ 281474976710656) (hL : LstI w.heap.size w aL cL L) (hIB : InsB L) :
    Calls Tryz.prog 22 #[.pointer (some ⟨b, 0, none⟩), .agg #[.int .i64 size, .slice aL L.length cL], .int .i64 limit] w (RuR p size L limit w) := by
  obtain ⟨V, hV⟩ : ∃ V, V = w.alloc (.cells #[.int .i64 size, .slice aL L.length cL] 47) := ⟨_, rfl⟩
  obtain ⟨W0, hW0⟩ : ∃ W0, W0 = V.alloc (.cells #[.int .i64 0, .int .i64 0, .slice none 0 0] 66) := ⟨_, rfl⟩
  have b1 : Below w.heap.size w V := by rw [hV]; exact (Below.refl _ _).alloc (Nat.le_refl _) _
  have hs : V.heap.size = w.heap.size + 1 := by rw [hV]; simp
  have b2 : Below V.heap.size V W0 := by rw [hW0]; exact (Below.refl _ _).alloc (Nat.le_refl _) _
  have hb0 := b1.trans (b2.mono b1.size)
  have hr0 : W0.heap[w.heap.size + 1]? = some (.cells #[.int .i64 0, .int .i64 0, .slice none 0 0] 66 (0, 0)) := by rw [hW0, ← hs]; exact heap_alloc_new V _
  have HWD := hid (pwalked_any p b size limit aL cL L W0 h3 h4 hpr ((hb0.cell (p := ⟨b, 0, none⟩) (World.block_lt_of_cell? _ _ hp)).trans hp) hn ((hL.below hb0).mono hb0.size) hIB)
  have HB0 := hid hb0
  have HR0 := hid hr0
  have HSO := hid SO
  obtain ⟨nL, hnL⟩ : ∃ nL, nL = L.length := ⟨_, rfl⟩
  rw [← hnL] at HWD hV ⊢
  rw [hV] at hW0
  clear b1 hs b2 hb0 hr0 hV hp hn hL hIB hpr SO h3 h4 hnL
  go_enter Tryz.func22, Tryz.ntmps22
  go_wp2_with fail
  rw [← hW0]
  clear hW0
  refine HWD.out.mono ?_
  rintro e w1 ⟨hb1, hr1⟩
  have HR1 := hid ((hb1.block _ (Array.getElem?_eq_some_iff.1 HR0.out).1).trans HR0.out)
  have HB1 := hid (HB0.out.trans (hb1.mono HB0.out.size))
  have d0 : w1.cell? ⟨w.heap.size + 1, 0, none⟩ = some (.int .i64 0) := by simp [World.cell?, HR1.out]
  have d1 : w1.cell? ⟨w.heap.size + 1, 1, none⟩ = some (.int .i64 0) := by simp [World.cell?, HR1.out]
  have d2 : w1.cell? ⟨w.heap.size + 1, 2, none⟩ = some (.slice none 0 0) := by simp [World.cell?, HR1.out]
  have df := (row3_of HR1.out).frozen
  have HCASE : Hid ((∃ z, z ≠ 0 ∧ e = .returned (.tuple #[.slice none 0 0, .map none, errV z]) ∧ ∀ w', Below w.heap.size w w' → RuR p size L limit w (.returned (.tuple #[.agg #[.int .i64 0, .int .i64 0, .slice none 0 0], errV z])) w') ∨ ∃ l cs v B, 0 < l.length ∧ l.length ≤ 16385 ∧ e = .returned (.tuple #[v, .map (some B), .nilIface]) ∧ StR W0.heap.size w1 v l ∧ MapAt w1 B (1 + 2 * l.length) cs ∧ ∀ w' v l', Below w.heap.size w w' → CelR w.heap.size w' v l' → AscC cs l' → RuR p size L limit w (.returned (.tuple #[.agg #[.int .i64 (outv l), .int .i64 ((l.length - 1 : Nat) : Int), v], .nilIface])) w') := by
    by_cases hz : fz6 (p : Int) size L.length limit ≠ 0
    · rw [if_pos hz] at hr1
      exact .inl ⟨_, hz, hr1, fun w' hb => ⟨hb, by rw [if_pos hz]⟩⟩
    · rw [if_neg hz] at hr1
      have hlm : 0 ≤ limit ∧ limit ≤ 16384 := by
        have hz0 : fz6 (p : Int) size L.length limit = 0 := Decidable.byContradiction hz
        unfold fz6 at hz0
        split at hz0
        · omega
        · split at hz0 <;> omega
      cases hX : mwalk p size L limit.toNat with
      | bad z =>
        rw [hX] at hr1
        exact .inl ⟨z, mgo_bad _ _ _ _ _ _ _ hX, hr1, fun w' hb => ⟨hb, by rw [if_neg hz, hX]⟩⟩
      | good l cs =>
        rw [hX] at hr1
        obtain ⟨v, B, h1, h2, h5⟩ := hr1
        have hln := mgo_len _ _ _ _ _ _ _ _ hX
        refine .inr ⟨l, cs, v, B, hln.1, by have := hln.2; simp at this; omega, h1, h2, h5, fun w' v' l' hb hc ha => ⟨hb, ?_⟩⟩
        rw [if_neg hz, hX]
        exact ⟨v', l', rfl, hc, ha⟩
  clear hr1 HWD HR0 HB0
  rcases HCASE.out with ⟨z, hz, rfl, hE⟩ | ⟨l, cs, v, B, hl0, hl1, rfl, hs1, hm1, hE⟩
  · rw [errV_nz hz] at hE ⊢
    have HP3 := hid (put3_heap HR1.out (.int .i64 0) (.int .i64 0) (.slice none 0 0))
    have HE := hid (hE _ (put3_below HB1.out (Nat.le_succ _) (g := w.heap.size + 1) (.int .i64 0) (.int .i64 0) (.slice none 0 0)))
    clear hE HCASE hz HSO hb1
    go_wp2_with fail
    (try simp only [Exit.inBlock, Exit.then])
    refine bodyPost_ret (results_ctM rfl _ _ (w.heap.size + 1) 66 #[.int .i64 0, .int .i64 0, .slice none 0 0] (0, 0) _ rfl HP3.out Tryz.underlying66 rfl (by kernel_rfl)) rfl ?_
    exact HE.out
  · obtain ⟨av, cv, rfl⟩ := hs1.form
    obtain ⟨g, cap, e1, _, hcl⟩ := hs1.cells hl0
    injection e1 with e1 _ e3
    subst e1 e3
    obtain ⟨o, ho⟩ := stvs_int l ((l.length - 1) * 10 + 7) (by rw [hs1.1]; omega)
    have hou : outv l = o := by unfold outv; rw [ho]
    rw [hou] at hE
    have ko := hcl _ _ ho
    have HAS := hid (fun W (h : MapAt W B (1 + 2 * l.length) cs) => pasc_any HSO.out B (1 + 2 * l.length) cs W h (by omega))
    obtain ⟨n, hn⟩ : ∃ n, n = l.length := ⟨_, rfl⟩
    rw [← hn] at hl0 hl1 hm1 hE HAS ko ⊢
    obtain ⟨k, hk⟩ : ∃ k, n = k + 1 := ⟨n - 1, by omega⟩
    subst hk
    rw [Nat.add_sub_cancel] at ko hE
    have hsub : IntKind.i64.wrap (((k + 1 : Nat) : Int) - 1) = (k : Int) := by rw [IntKind.wrap_i64]; omega
    have HM1 := hid hm1
    have HEE := hid hE
    have hkl : (k : Int) < ((k + 1 : Nat) : Int) := by omega
    clear hE HCASE hs1 hcl ho hou hn hm1 HSO hb1
    go_wp2_with fail
    refine wp_region_held_drew (S := (fun W => W.cell? ⟨g, k * 10 + 7, none⟩ = some (.int .i64 o))) (by kernel_rfl) ko (fun hHeld => ?_)
    refine wpAnyH_takeW (i := 0) (v := .slice (some ⟨g, 0, none⟩) (k + 1) cv) rfl (by kernel_rfl) (by kernel_rfl) (by kernel_rfl) (fun _ _ _ h => h) (by rfl) (fun W hC => by go_simp) hHeld ?_
    simp only [Act.put, List.setIfInBounds_toArray, List.set_cons_zero, List.set_cons_succ]
    refine wpAnyH_takeW (i := 1) (v := .int .i64 (k : Int)) rfl (by kernel_rfl) (by kernel_rfl) (by kernel_rfl) (fun _ _ _ h => h) (by rfl) (fun W hC => by go_simp) hHeld ?_
    simp only [Act.put, List.setIfInBounds_toArray, List.set_cons_zero, List.set_cons_succ]
    refine wpAnyH_takeW (i := 2) (v := .pointer (some ⟨g, k * 10, none⟩)) rfl (by kernel_rfl) (by kernel_rfl) (by kernel_rfl) (fun _ _ _ h => h) (by rfl) (fun W hC => by (go_simp; intro hh; omega)) hHeld ?_
    simp only [Act.put, List.setIfInBounds_toArray, List.set_cons_zero, List.set_cons_succ]
    refine wpAnyH_takeW (i := 3) (v := .pointer (some ⟨g, k * 10 + 7, none⟩)) rfl (by kernel_rfl) (by kernel_rfl) (by kernel_rfl) (fun _ _ _ h => h) (by rfl) (fun W hC => by go_simp) hHeld ?_
    simp only [Act.put, List.setIfInBounds_toArray, List.set_cons_zero, List.set_cons_succ]
    refine wpAnyH_takeW (i := 4) (v := .pointer (some ⟨g, k * 10 + 7, none⟩)) rfl (by kernel_rfl) (by kernel_rfl) (by kernel_rfl) (fun _ _ _ h => h) (by rfl) (fun W hC => by go_simp) hHeld ?_
    simp only [Act.put, List.setIfInBounds_toArray, List.set_cons_zero, List.set_cons_succ]
    refine wpAnyH_takeW (i := 5) (v := .int .i64 o) rfl (by kernel_rfl) (by kernel_rfl) (by kernel_rfl) (fun _ _ _ h => h) (by rfl) (fun W hC => by go_simp) hHeld ?_
    simp only [Act.put, List.setIfInBounds_toArray, List.set_cons_zero, List.set_cons_succ]
    refine wpAnyH_takeW (i := 6) (v := .int .i64 (k : Int)) rfl (by kernel_rfl) (by kernel_rfl) (by kernel_rfl) (fun _ _ _ h => h) (by rfl) (fun W hC => by go_simp) hHeld ?_
    simp only [Act.put, List.setIfInBounds_toArray, List.set_cons_zero, List.set_cons_succ]
    refine wpAnyH_takeW (i := 7) (v := .map (some B)) rfl (by kernel_rfl) (by kernel_rfl) (by kernel_rfl) (fun _ _ _ h => h) (by rfl) (fun W hC => by go_simp) hHeld ?_
    simp only [Act.put, List.setIfInBounds_toArray, List.set_cons_zero, List.set_cons_succ]
    refine wpAnyH_ready (rs := [8]) (by kernel_rfl) (by simp) ?_
    refine AllReadyH.consW rfl (fun K hK => ?_) AllReadyH.nil
    go_simp
    refine (HAS.out w1.drew HM1.out).mono ?_
    rintro e w2 ⟨v, l', rfl, hcl, hasc, hb2⟩
    have hb12 : Below w1.heap.size w1 w2 := ⟨hb2.os, hb2.tape, hb2.output, hb2.size, hb2.block⟩
    obtain ⟨a2, c2, rfl⟩ := hcl.form
    have ko2 := (hb12.cell (p := ⟨g, k * 10 + 7, none⟩) (World.block_lt_of_cell? _ _ ko)).trans ko
    have HR2 := hid ((hb12.block _ (Array.getElem?_eq_some_iff.1 HR1.out).1).trans HR1.out)
    have HB2 := hid (HB1.out.trans (hb12.mono HB1.out.size))
    have HCL := hid hcl
    have HAC := hid hasc
    have hlt1 := hb12.size
    have HGE : Hid (w.heap.size + 1 < w1.heap.size) := (Array.getElem?_eq_some_iff.1 HR1.out).1
    have HGG : Hid (g ≠ w.heap.size + 1) := by
      rintro rfl
      have h5 := World.block_lt_of_cell? _ _ ko
      have h6 := ko
      have h7 := HR1.out
      have : (k * 10 + 7) < 3 := by
        simp only [World.cell?, h7] at h6
        obtain ⟨h8, _⟩ := Array.getElem?_eq_some_iff.1 h6
        simpa using h8
      omega
    refine hK.out _ _ ko2 (fun hHeld => ?_)
    clear hK K hcl hasc hb2 hb12 d0 d1 d2 df HAS HM1
    have d0 : w2.cell? ⟨w.heap.size + 1, 0, none⟩ = some (.int .i64 0) := by simp [World.cell?, HR2.out]
    have d1 : w2.cell? ⟨w.heap.size + 1, 1, none⟩ = some (.int .i64 0) := by simp [World.cell?, HR2.out]
    have d2 : w2.cell? ⟨w.heap.size + 1, 2, none⟩ = some (.slice none 0 0) := by simp [World.cell?, HR2.out]
    have df := (row3_of HR2.out).frozen
    refine wpAnyH_takeW (i := 9) (v := .agg #[.int .i64 o, .int .i64 (k : Int), .slice a2 l'.length c2]) rfl (by kernel_rfl) (by kernel_rfl) (by kernel_rfl) (fun _ _ _ h => h) (by rfl) (fun W hC => by go_simp) hHeld ?_
    simp only [Act.put, List.setIfInBounds_toArray, List.set_cons_zero, List.set_cons_succ]
    have HP3 := hid (put3_heap HR2.out (.int .i64 o) (.int .i64 (k : Int)) (.slice a2 l'.length c2))
    have HK3 : Hid ((((w2.setCell ⟨w.heap.size + 1, 0, none⟩ (.int .i64 o)).setCell ⟨w.heap.size + 1, 1, none⟩ (.int .i64 (k : Int))).setCell ⟨w.heap.size + 1, 2, none⟩ (.slice a2 l'.length c2)).cell? ⟨g, k * 10 + 7, none⟩ = some (.int .i64 o)) := by
      refine (World.cell?_of_block (w := w2) (a := ⟨g, k * 10 + 7, none⟩) ?_).trans ko2
      rw [Below.heap_setCell _ _ _ _ HGG.out, Below.heap_setCell _ _ _ _ HGG.out, Below.heap_setCell _ _ _ _ HGG.out]
    have HEND := hid (HEE.out (((w2.setCell ⟨w.heap.size + 1, 0, none⟩ (.int .i64 o)).setCell ⟨w.heap.size + 1, 1, none⟩ (.int .i64 (k : Int))).setCell ⟨w.heap.size + 1, 2, none⟩ (.slice a2 l'.length c2)) (.slice a2 l'.length c2) l' (put3_below HB2.out (Nat.le_succ _) (g := w.heap.size + 1) _ _ _) (by
      refine ⟨HCL.out.1, ?_⟩
      have hge := HGE.out
      rcases HCL.out.2 with hn | ⟨g', cap', cur, e1, hb', hg', rest⟩
      · exact .inl hn
      · refine .inr ⟨g', cap', cur, e1, ?_, ?_, rest⟩
        · have h9 : w1.heap.size ≤ g' := hb'
          omega
        · have h9 : w1.heap.size ≤ g' := hb'
          rw [Below.heap_setCell _ _ _ _ (by show g' ≠ w.heap.size + 1; omega), Below.heap_setCell _ _ _ _ (by show g' ≠ w.heap.size + 1; omega), Below.heap_setCell _ _ _ _ (by show g' ≠ w.heap.size + 1; omega)]
          exact hg') HAC.out)
    refine wpAnyH_ready (rs := [10]) (by kernel_rfl) (by simp) ?_
    refine AllReadyH.consW rfl (fun K hK => ?_) AllReadyH.nil
    go_simp
    refine hK.out _ _ HK3.out (fun hHeld => ?_)
    clear hK K
    refine wpAnyH_takeW (i := 11) (v := .nilIface) rfl (by kernel_rfl) (by kernel_rfl) (by kernel_rfl) (fun _ _ _ h => h) (by rfl) (fun W hC => by go_simp) hHeld ?_
    simp only [Act.put, List.setIfInBounds_toArray, List.set_cons_zero, List.set_cons_succ]
    refine wpAnyH_done (by kernel_rfl) ?_ _
    clear hHeld ko ko2 HEE HCL HAC HK3 HR2 HR1 d0 d1 d2 df
    go_wp2_with fail
    (try simp only [Exit.inBlock, Exit.then])
    refine bodyPost_ret (results_ctM rfl _ _ (w.heap.size + 1) 66 #[.int .i64 o, .int .i64 (k : Int), .slice a2 l'.length c2] (0, 0) _ rfl HP3.out Tryz.underlying66 rfl (by kernel_rfl)) rfl ?_
    exact HEND.out

end Go.Proofs.YtlgcmeachjjmgajGreatDoor

namespace Go.Proofs.YtlgcmeachjjmgajGreatDoor
open Go.RowKit Go.Maps

theorem asc_pairs : ∀ {us vs : List (Int × Int)}, us.Pairwise (fun a b => a.1 < b.1) → vs.Pairwise (fun a b => a.1 < b.1) → (∀ x, x ∈ us ↔ x ∈ vs) → us = vs
  | [], [], _, _, _ => rfl
  | [], v :: vs, _, _, h => by have := (h v).2 (List.mem_cons_self ..); cases this
  | u :: us, [], _, _, h => by have := (h u).1 (List.mem_cons_self ..); cases this
  | u :: us, v :: vs, hu, hv, h => by
    rw [List.pairwise_cons] at hu hv
    have huv : u = v := by
      rcases List.mem_cons.1 ((h u).1 (List.mem_cons_self ..)) with e | e
      · exact e
      · rcases List.mem_cons.1 ((h v).2 (List.mem_cons_self ..)) with e2 | e2
        · exact e2.symm
        · have h1 := hv.1 u e
          have h2 := hu.1 v e2
          omega
    subst huv
    congr 1
    refine asc_pairs hu.2 hv.2 (fun x => ?_)
    constructor
    · intro hx
      rcases List.mem_cons.1 ((h x).1 (List.mem_cons_of_mem _ hx)) with e | e
      · subst e
        have := hu.1 x hx
        omega
      · exact e
    · intro hx
      rcases List.mem_cons.1 ((h x).2 (List.mem_cons_of_mem _ hx)) with e | e
      · subst e
        have := hv.1 x hx
        omega
      · exact e
theorem AscC.unique {cs l1 l2 : List (Int × Int)} (h1 : AscC cs l1) (h2 : AscC cs l2) : l1 = l2 := asc_pairs h1.1 h2.1 (fun x => by
  obtain ⟨a, b⟩ := x
  rw [h1.2 a b, h2.2 a b])
theorem mgo_more (p : Nat) (L : List InsZ) (limit : Nat) : ∀ (f : Nat) (s : RM) (done l : List (List Int)) (cs : List (Int × Int)), mgo p L limit f s done = .good l cs → done.length < l.length
  | 0, _, _, _, _, h => by simp [mgo] at h
  | f + 1, s, done, l, cs, h => by
    rw [mgo] at h
    split at h
    · cases h
    · split at h
      · cases h
      · split at h
        · cases h
        · split at h
          · injection h with h1 _
            rw [← h1]
            simp
          · have := mgo_more p L limit f _ _ l cs h
            simp at this
            omega
/-- another limit -/
theorem mgo_other (p : Nat) (L : List InsZ) (limit other : Nat) : ∀ (f f2 : Nat) (s : RM) (done l : List (List Int)) (cs : List (Int × Int)), mgo p L limit f s done = .good l cs → done.length ≤ other → done.length + f2 = other + 1 → mgo p L other f2 s done = if other < l.length - 1 then .bad 8 else .good l cs
  | 0, _, _, _, _, _, h, _, _ => by simp [mgo] at h
  | f + 1, 0, _, _, _, _, _, h1, h2 => by omega
  | f + 1, f2 + 1, s, done, l, cs, h, h1, h2 => by
    have hm := mgo_more p L limit _ _ _ _ _ h
    rw [mgo] at h ⊢
    split at h
    · cases h
    · rename_i hpc
      rw [if_neg hpc]
      split at h
      · cases h
      · rename_i hlm
        split at h
        · cases h
        · rename_i her
          split at h
          · rename_i hop
            rw [if_neg (fun hh => hh.2 hop), if_neg her, if_pos hop]
            injection h with e1 e2
            have hl : l.length = done.length + 1 := by rw [← e1]; simp
            rw [if_neg (by omega), e1, e2]
          · rename_i hop
            have hm2 := mgo_more p L limit _ _ _ _ _ h
            simp at hm2
            by_cases hd : done.length = other
            · rw [if_pos ⟨hd, hop⟩, if_pos (by omega)]
            · rw [if_neg (fun hh => hd hh.1), if_neg her, if_neg hop]
              exact mgo_other p L limit other f f2 _ _ l cs h (by simp; omega) (by simp; omega)
theorem mwalk_other {p : Nat} {size : Int} {L : List InsZ} {limit : Nat} (other : Nat) {l : List (List Int)} {cs : List (Int × Int)} (h : mwalk p size L limit = .good l cs) : mwalk p size L other = if other < l.length - 1 then .bad 8 else .good l cs :=
  mgo_other p L limit other _ _ _ _ l cs h (by simp) (by simp)

end Go.Proofs.YtlgcmeachjjmgajGreatDoor

namespace Go.Proofs.YtlgcmeachjjmgajGreatDoor
open Go.RowKit Go.Maps

theorem celv_int : ∀ (l : List (Int × Int)) (m : Nat), m < (celv l).length → ∃ x, (celv l)[m]? = some (.int .i64 x) := fun l m hm => by
  rw [celv_len] at hm
  obtain ⟨h1, h2⟩ := celv_at l (m / 2) (by omega)
  have : m = m / 2 * 2 ∨ m = m / 2 * 2 + 1 := by omega
  rcases this with e | e
  · rw [e]; exact ⟨_, h1⟩
  · rw [e]; exact ⟨_, h2⟩
theorem CelR.cellsM {base : Nat} {w : World} {v : Value} {l : List (Int × Int)} (h : CelR base w v l) (h0 : 0 < l.length) : ∃ g cap, v = .slice (some ⟨g, 0, none⟩) l.length cap ∧ ∀ m x, (celv l)[m]? = some (.int .i64 x) → w.cell? ⟨g, m, none⟩ = some (.int .i64 x) := by
  have h' := h
  rcases h.2 with ⟨_, hn⟩ | ⟨g, cap, cur, rfl, hb, hg, hn, hm, hs, ht⟩
  · omega
  · refine ⟨g, cap, rfl, fun m x hx => ?_⟩
    have := World.ownsRow.cells h' (g := g) rfl m _ hx
    have hadd : (⟨g, 0, none⟩ : Addr).add m = ⟨g, 0 + m, none⟩ := by unfold Addr.add; split <;> simp_all
    rw [hadd, Nat.zero_add] at this
    exact this
theorem CelR.belowM {base : Nat} {w w' : World} {v : Value} {l : List (Int × Int)} (h : CelR base w v l) (e : Below w.heap.size w w') : CelR base w' v l := by
  refine ⟨h.1, ?_⟩
  rcases h.2 with hn | ⟨g, cap, cur, h1, hb, hg, rest⟩
  · exact .inl hn
  · exact .inr ⟨g, cap, cur, h1, hb, (e.block _ (Array.getElem?_eq_some_iff.1 hg).1).trans hg, rest⟩
theorem neq_cell (y0 y1 : Int) (w : World) : (binOp BinOp.neq 178 (.agg #[.int .i64 y0, .int .i64 y1]) (.agg #[.int .i64 y0, .int .i64 y1])).run Tryz.prog w = .ok (.bool false) w := by
  simp [go_sem]

end Go.Proofs.YtlgcmeachjjmgajGreatDoor

namespace Go.Proofs.YtlgcmeachjjmgajGreatDoor
open Go.RowKit Go.Maps

set_option maxRecDepth 100000 in
theorem plain6_yes (q : Nat) (w : World) (h3 : 3 ≤ q) (h4 : q ≤ 2147483647) (hpr : Num.Prime q) :
    Calls Tryz.prog 14 #[.int .i64 q] w fun e w' => e = .returned (.pointer (some ⟨w.heap.size, 0, none⟩)) ∧ w'.cell? ⟨w.heap.size, 0, none⟩ = some (.int .i64 q) ∧ Below w.heap.size w w' := by
  have HF := hid (new_yes q w h3 h4 hpr)
  clear hpr
  go_enter Tryz.func14, Tryz.ntmps14
  go_wp2_with fail
  refine HF.out.mono ?_
  rintro e w1 ⟨rfl, hc1, hb1, hlt1⟩
  have HE : Hid (w1.cell? ⟨w.heap.size, 0, none⟩ = some (.int .i64 q) ∧ Below w.heap.size w w1) := ⟨hc1, hb1⟩
  clear hc1 hb1 HF
  go_wp2_with fail
  go_ret
  exact ⟨rfl, HE.out⟩
set_option maxRecDepth 100000 in
theorem plain6_no (p : Int) (w : World) (hno : ¬ okPrime p) (hp1 : -9223372036854775808 ≤ p) (hp2 : p ≤ 9223372036854775807) :
    Calls Tryz.prog 14 #[.int .i64 p] w fun e w' => e = .returned (.pointer none) ∧ w' = w := by
  have HF := hid (new_no p w hno hp1 hp2)
  clear hno hp1 hp2
  go_enter Tryz.func14, Tryz.ntmps14
  go_wp2_with fail
  refine HF.out.mono ?_
  rintro e w1 ⟨rfl, rfl⟩
  go_wp2_with fail
  go_ret
  exact ⟨rfl, rfl⟩

theorem prime97M : Num.Prime 97 := by
  refine ⟨by decide, fun d hd => ?_⟩
  have hle : d ≤ 97 := Nat.le_of_dvd (by decide) hd
  have key : ∀ e, e ≤ 97 → 97 % e = 0 → e = 1 ∨ e = 97 := by decide
  exact key d hle (Nat.mod_eq_zero_of_dvd hd)
/-- chapter 10's example -/
def exL : List InsZ := [⟨5, 0, 5, 0⟩, ⟨5, 1, -1, 0⟩, ⟨3, 0, 1, 2⟩, ⟨0, 2, 0, 0⟩]
def exC : List (Int × Int) := [(0, 0), (1, 5), (2, 96), (3, 92)]
theorem ex_walk : ∃ l, mwalk 97 3 exL 3 = .good l exC ∧ l.length = 4 ∧ outv l = 92 := ⟨_, rfl, rfl, rfl⟩
theorem ex_cells {l : List (Int × Int)} (h : AscC exC l) : l.length = 3 := by
  have hx : AscC exC [(1, 5), (2, 96), (3, 92)] := by
    refine ⟨by decide, fun x y => ?_⟩
    by_cases h0 : x = 0
    · subst h0; simp
    · by_cases h1 : x = 1
      · subst h1
        simp [cvl, finz, exC, cat, I64, List.findIdx?_cons]
        omega
      · by_cases h2 : x = 2
        · subst h2
          simp [cvl, finz, exC, cat, I64, List.findIdx?_cons]
          omega
        · by_cases h3 : x = 3
          · subst h3
            simp [cvl, finz, exC, cat, I64, List.findIdx?_cons]
            omega
          · have hm : finz exC x = -1 := finz_miss (fun j hj => by
              have : j = 0 ∨ j = 1 ∨ j = 2 ∨ j = 3 := by simp [exC] at hj; omega
              rcases this with rfl | rfl | rfl | rfl <;> simp [cat, exC] <;> omega)
            rw [hm]
            simp [h1, h2, h3]
  rw [h.unique hx]
  rfl
theorem ex_bounds : InsB exL := fun k hk => by
  have : k = 0 ∨ k = 1 ∨ k = 2 ∨ k = 3 := by simp [exL] at hk; omega
  rcases this with rfl | rfl | rfl | rfl <;> decide

set_option maxRecDepth 100000 in
set_option maxHeartbeats 2000000 in
theorem lives6_any (SO : SrtAs) (w : World) : Calls Tryz.prog 13 #[] w fun e w' => e = .returned (.bool true) ∧ Below w.heap.size w w' := by
  have HF := hid (plain6_yes 97 w (by decide) (by decide) prime97M)
  have HSO := hid SO
  clear SO
  go_enter Tryz.func13, Tryz.ntmps13
  go_wp2_with fail
  refine HF.out.mono ?_
  rintro e w1 ⟨rfl, hc1, hb1⟩
  have HB1 := hid hb1
  clear hb1 HF
  go_wp2_with fail
  obtain ⟨V, hV⟩ : ∃ V, V = w1.alloc (.cells #[.int .i64 5, .int .i64 0, .int .i64 5, .int .i64 0, .int .i64 5, .int .i64 1, .int .i64 (-1), .int .i64 0, .int .i64 3, .int .i64 0, .int .i64 1, .int .i64 2, .int .i64 0, .int .i64 2, .int .i64 0, .int .i64 0] 52) := ⟨_, rfl⟩
  obtain ⟨W2, hW2⟩ : ∃ W2, W2 = V.alloc (.cells #[.int .i64 3, .slice (some ⟨w1.heap.size, 0, none⟩) 4 4] 47) := ⟨_, rfl⟩
  have b1 : Below w1.heap.size w1 V := by rw [hV]; exact (Below.refl _ _).alloc (Nat.le_refl _) _
  have b2 : Below V.heap.size V W2 := by rw [hW2]; exact (Below.refl _ _).alloc (Nat.le_refl _) _
  have hs : V.heap.size = w1.heap.size + 1 := by rw [hV]; simp
  have hs2 : W2.heap.size = V.heap.size + 1 := by rw [hW2]; simp
  have b12 := b1.trans (b2.mono b1.size)
  have hrow : W2.heap[w1.heap.size]? = some (.cells #[.int .i64 5, .int .i64 0, .int .i64 5, .int .i64 0, .int .i64 5, .int .i64 1, .int .i64 (-1), .int .i64 0, .int .i64 3, .int .i64 0, .int .i64 1, .int .i64 2, .int .i64 0, .int .i64 2, .int .i64 0, .int .i64 0] 52 (0, 0)) := (b2.block _ (by omega)).trans (by rw [hV]; exact heap_alloc_new w1 _)
  have HLI : Hid (LstI W2.heap.size W2 (some ⟨w1.heap.size, 0, none⟩) 4 exL) := by
    refine ⟨fun k hk => ⟨w1.heap.size, 0, rfl, by omega, ?_⟩, Nat.le_refl _, fun h => by cases h⟩
    have : k = 0 ∨ k = 1 ∨ k = 2 ∨ k = 3 := by simp [exL] at hk; omega
    rcases this with rfl | rfl | rfl | rfl <;> simp [World.cell?, hrow, insat, exL]
  have HRN := hid (prun_any HSO.out 97 w.heap.size 3 3 (some ⟨w1.heap.size, 0, none⟩) 4 exL W2 (by decide) (by decide) prime97M ((b12.cell (p := ⟨w.heap.size, 0, none⟩) (World.block_lt_of_cell? _ _ hc1)).trans hc1) (by decide) HLI.out ex_bounds)
  have HB2 := hid (HB1.out.trans (b12.mono HB1.out.size))
  rw [← hV, ← hW2]
  clear hV hW2 b1 b2 hs hs2 b12 hrow HLI HSO HB1 hc1
  refine HRN.out.mono ?_
  rintro e w3 ⟨hb3, hr3⟩
  obtain ⟨l, hX, hl4, hou⟩ := ex_walk
  have hf0 : ¬ fz6 ((97 : Nat) : Int) 3 exL.length 3 ≠ 0 := by decide
  rw [if_neg hf0, show (3 : Int).toNat = 3 from rfl, hX] at hr3
  obtain ⟨v, l', rfl, hcl, hasc⟩ := hr3
  have hl3 := ex_cells hasc
  obtain ⟨a3, c3, rfl⟩ := hcl.form
  rw [hl3, hou, hl4]
  have HB3 := hid (HB2.out.trans (hb3.mono HB2.out.size))
  clear hb3 HRN HB2 hX hl4 hou hf0 hcl hasc hl3
  go_wp2_with fail
  go_ret
  exact ⟨rfl, HB3.out.alloc HB3.out.size _⟩

/-- what Run gives, in two -/
theorem RuR.cases {p : Nat} {size : Int} {L : List InsZ} {limit : Int} {w w' : World} {e : Ending} (h : RuR p size L limit w e w') :
    (∃ z, z ≠ 0 ∧ e = .returned (.tuple #[.agg #[.int .i64 0, .int .i64 0, .slice none 0 0], .iface 72 (.int .i64 z)]) ∧ ((fz6 (p : Int) size L.length limit ≠ 0 ∧ z = fz6 (p : Int) size L.length limit) ∨ (fz6 (p : Int) size L.length limit = 0 ∧ mwalk p size L limit.toNat = .bad z))) ∨
    (fz6 (p : Int) size L.length limit = 0 ∧ ∃ l cs a c l', mwalk p size L limit.toNat = .good l cs ∧ 0 < l.length ∧ e = .returned (.tuple #[.agg #[.int .i64 (outv l), .int .i64 ((l.length - 1 : Nat) : Int), .slice a l'.length c], .nilIface]) ∧ CelR w.heap.size w' (.slice a l'.length c) l' ∧ AscC cs l') := by
  obtain ⟨_, h2⟩ := h
  by_cases hz : fz6 (p : Int) size L.length limit ≠ 0
  · rw [if_pos hz, errV_nz hz] at h2
    exact .inl ⟨_, hz, h2, .inl ⟨hz, rfl⟩⟩
  · rw [if_neg hz] at h2
    have hz0 : fz6 (p : Int) size L.length limit = 0 := Decidable.byContradiction hz
    cases hX : mwalk p size L limit.toNat with
    | bad z =>
      rw [hX] at h2
      have hnz := mgo_bad _ _ _ _ _ _ _ hX
      have h2' : e = _ := h2
      rw [errV_nz hnz] at h2'
      exact .inl ⟨z, hnz, h2', .inr ⟨hz0, rfl⟩⟩
    | good l cs =>
      rw [hX] at h2
      obtain ⟨v, l', h5, h6, h7⟩ := h2
      obtain ⟨a, c, rfl⟩ := h6.form
      exact .inr ⟨hz0, l, cs, a, c, l', rfl, (mgo_len _ _ _ _ _ _ _ _ hX).1, h5, h6, h7⟩
theorem fz6_lim {p size : Int} {n : Nat} {l1 l2 : Int} (h : fz6 p size n l1 = 0) : fz6 p size n l2 = if l2 < 0 ∨ 16384 < l2 then 3 else 0 := by
  unfold fz6 at h ⊢
  split at h
  · omega
  · rename_i h1
    rw [if_neg h1]

end Go.Proofs.YtlgcmeachjjmgajGreatDoor

namespace Go.Proofs
open Go.Shelf

def Tryz.sortC_ren : Go.Shelf.Ren := ⟨fun | 6 => 72 | 15 => 108 | 14 => 107 | 28 => 147 | 29 => 148 | 20 => 139 | 21 => 140 | 22 => 141 | 23 => 142 | 24 => 143 | 25 => 144 | 26 => 145 | 27 => 146 | 46 => 170 | 47 => 171 | 48 => 172 | 49 => 173 | 50 => 174 | 57 => 183 | n => n, fun | 22 => 64 | 24 => 178 | 25 => 180 | 3 => 3 | 39 => 224 | 0 => 0 | 53 => 266 | 55 => 268 | 4 => 4 | 46 => 259 | 45 => 258 | 50 => 263 | 5 => 5 | 9 => 9 | 66 => 276 | 70 => 280 | 76 => 284 | 77 => 90 | n => n, fun | n => n⟩
theorem Tryz.sortC : Go.Proofs.SlLaysF0.n6 Tryz.prog Tryz.sortC_ren := {
  mixed := by kernel_rfl
  f6 := ⟨Tryz.f72.name, by decide, Tryz.func72.trans (congrArg some (by kernel_rfl))⟩
  f14 := ⟨Tryz.f107.name, by decide, Tryz.func107.trans (congrArg some (by kernel_rfl))⟩
  f15 := Tryz.func108.trans (congrArg some (by kernel_rfl))
  f20 := ⟨Tryz.f139.name, by decide, Tryz.func139.trans (congrArg some (by kernel_rfl))⟩
  f21 := ⟨Tryz.f140.name, by decide, Tryz.func140.trans (congrArg some (by kernel_rfl))⟩
  f22 := ⟨Tryz.f141.name, by decide, Tryz.func141.trans (congrArg some (by kernel_rfl))⟩
  f23 := ⟨Tryz.f142.name, by decide, Tryz.func142.trans (congrArg some (by kernel_rfl))⟩
  f24 := ⟨Tryz.f143.name, by decide, Tryz.func143.trans (congrArg some (by kernel_rfl))⟩
  f25 := ⟨Tryz.f144.name, by decide, Tryz.func144.trans (congrArg some (by kernel_rfl))⟩
  f26 := ⟨Tryz.f145.name, by decide, Tryz.func145.trans (congrArg some (by kernel_rfl))⟩
  f27 := ⟨Tryz.f146.name, by decide, Tryz.func146.trans (congrArg some (by kernel_rfl))⟩
  f28 := Tryz.func147.trans (congrArg some (by kernel_rfl))
  f29 := Tryz.func148.trans (congrArg some (by kernel_rfl))
  f46 := ⟨Tryz.f170.name, by decide, Tryz.func170.trans (congrArg some (by kernel_rfl))⟩
  f47 := Tryz.func171.trans (congrArg some (by kernel_rfl))
  f48 := Tryz.func172.trans (congrArg some (by kernel_rfl))
  f49 := ⟨Tryz.f173.name, by decide, Tryz.func173.trans (congrArg some (by kernel_rfl))⟩
  f50 := ⟨Tryz.f174.name, by decide, Tryz.func174.trans (congrArg some (by kernel_rfl))⟩
  f57 := ⟨Tryz.f183.name, by decide, Tryz.func183.trans (congrArg some (by kernel_rfl))⟩
  t0 := Tryz.underlying0
  a0 := Tryz.isAgg0
  z0 := Tryz.sizeOf0
  v0 := Tryz.zeroValue0
  t3 := Tryz.underlying3
  a3 := Tryz.isAgg3
  z3 := Tryz.sizeOf3
  v3 := Tryz.zeroValue3
  t4 := Tryz.underlying4
  a4 := Tryz.isAgg4
  z4 := Tryz.sizeOf4
  v4 := Tryz.zeroValue4
  t5 := Tryz.underlying5
  a5 := Tryz.isAgg5
  z5 := Tryz.sizeOf5
  v5 := Tryz.zeroValue5
  t9 := Tryz.underlying9
  a9 := Tryz.isAgg9
  z9 := Tryz.sizeOf9
  v9 := Tryz.zeroValue9
  t22 := Tryz.underlying64
  a22 := Tryz.isAgg64
  z22 := Tryz.sizeOf64
  v22 := Tryz.zeroValue64
  t25 := Tryz.underlying180
  a25 := Tryz.isAgg180
  z25 := Tryz.sizeOf180
  v25 := Tryz.zeroValue180
  t39 := Tryz.underlying224
  a39 := Tryz.isAgg224
  z39 := Tryz.sizeOf224
  v39 := Tryz.zeroValue224
  t45 := Tryz.underlying258
  a45 := Tryz.isAgg258
  z45 := Tryz.sizeOf258
  v45 := Tryz.zeroValue258
  t46 := Tryz.underlying259
  a46 := Tryz.isAgg259
  z46 := Tryz.sizeOf259
  v46 := Tryz.zeroValue259
  t50 := Tryz.underlying263
  a50 := Tryz.isAgg263
  z50 := Tryz.sizeOf263
  v50 := Tryz.zeroValue263
  t53 := Tryz.underlying266
  a53 := Tryz.isAgg266
  z53 := Tryz.sizeOf266
  v53 := Tryz.zeroValue266
  t55 := Tryz.underlying268
  a55 := Tryz.isAgg268
  z55 := Tryz.sizeOf268
  v55 := Tryz.zeroValue268
  t66 := Tryz.underlying276
  a66 := Tryz.isAgg276
  z66 := Tryz.sizeOf276
  v66 := Tryz.zeroValue276
  t70 := Tryz.underlying280
  a70 := Tryz.isAgg280
  z70 := Tryz.sizeOf280
  v70 := Tryz.zeroValue280
  t76 := Tryz.underlying284
  a76 := Tryz.isAgg284
  z76 := Tryz.sizeOf284
  v76 := Tryz.zeroValue284
  t77 := Tryz.underlying90
  a77 := Tryz.isAgg90
  z77 := Tryz.sizeOf90
  v77 := Tryz.zeroValue90 }
end Go.Proofs

namespace Go.Proofs.YtlgcmeachjjmgajGreatDoor
open Go.RowKit Go.Maps

set_option maxHeartbeats 1000000 in
theorem nani_any (x : Int) (w : World) : Calls Tryz.prog 109 #[.int .i64 x] w fun e w' => e = .returned (.bool false) ∧ w' = w := by
  go_enter Tryz.func109, Tryz.ntmps109
  go_wp2_with fail
  go_ret
  exact ⟨by simp, rfl⟩

set_option maxHeartbeats 1000000 in
theorem cmpi_any (x y : Int) (w : World) : Calls Tryz.prog 74 #[.int .i64 x, .int .i64 y] w fun e w' => e = .returned (.int .i64 (Lib.compareInt x y)) ∧ w' = w := by
  go_enter Tryz.func74, Tryz.ntmps74
  go_wp2_with fail
  refine (nani_any x _).mono ?_
  rintro e w1 ⟨rfl, h1⟩
  rw [h1]
  go_wp2_with fail
  refine (nani_any y _).mono ?_
  rintro e w2 ⟨rfl, h2⟩
  rw [h2]
  go_wp2_with fail
  all_goals (go_ret; refine ⟨?_, rfl⟩; unfold Lib.compareInt; (repeat' split) <;> first | rfl | (exfalso; omega))

set_option maxHeartbeats 1000000 in
/-- ascending's own comparison -/
theorem casc_any (x y : Int × Int) (W : World) : Calls Tryz.prog 73 #[.agg #[.int .i64 x.1, .int .i64 x.2], .agg #[.int .i64 y.1, .int .i64 y.2]] W fun e w' => e = .returned (.int .i64 (Lib.compareInt x.1 y.1)) ∧ ∃ q os', w' = Sort.grow (W.drewN q) os' := by
  have hcon := fun W' => cmpi_any x.1 y.1 W'
  generalize Lib.compareInt x.1 y.1 = r at hcon ⊢
  go_enter Tryz.func73, Tryz.ntmps73
  go_wp2_with fail
  refine (hcon _).mono ?_
  rintro e w' ⟨rfl, rfl⟩
  go_wp2_with fail
  go_ret
  exact ⟨rfl, 0, _, by rw [Sort.alloc_eq_grow, Sort.alloc_eq_grow, Sort.grow_grow]; rfl⟩

end Go.Proofs.YtlgcmeachjjmgajGreatDoor

namespace Go.Proofs.YtlgcmeachjjmgajGreatDoor
open Go.RowKit Go.Maps

/-- a cell's two numbers -/
def enc2 (x : Int × Int) : List Value := [.int .i64 x.1, .int .i64 x.2]
def cf2 (x y : Int × Int) : Int := Lib.compareInt x.1 y.1
theorem lt2 (x y : Int × Int) : ltOf cf2 x y = decide (x.1 < y.1) := by
  unfold ltOf cf2 Lib.compareInt
  by_cases h1 : x.1 < y.1
  · simp [h1]
  · by_cases h2 : y.1 < x.1 <;> simp [h1, h2]
theorem swo2 : Sort.SWO (ltOf cf2) where
  irrefl x := by rw [lt2]; simp
  trans x y z h1 h2 := by rw [lt2] at *; simp at *; omega
  ntrans x y z h1 h2 := by rw [lt2] at *; simp at *; omega

theorem celv_flat (l : List (Int × Int)) (t : Nat) (h : t < l.length * 2) : (celv l)[t]? = some (Sort.flatK enc2 2 l.toArray)[t]! := by
  rw [Sort.get_flatK enc2 2 _ t (by simpa using h)]
  have hj : t / 2 < l.length := by omega
  have hc : (l.toArray)[t / 2]! = cat l (t / 2) := by
    rw [getElem!_pos _ _ (by simpa using hj)]
    simp [cat, hj]
  rw [hc]
  have ha := celv_at l (t / 2) hj
  rcases Nat.mod_two_eq_zero_or_one t with h0 | h0
  · rw [h0]
    have e : t / 2 * 2 = t := by omega
    rw [e] at ha
    exact ha.1
  · rw [h0]
    have e : t / 2 * 2 + 1 = t := by omega
    rw [e] at ha
    exact ha.2

theorem srt_perm {l : List (Int × Int)} {d' : Array (Int × Int)} (h : Sort.PermIn 0 l.toArray.size l.toArray d') : d'.size = l.length ∧ d'.toList.Perm l := by
  obtain ⟨h1, _, h3⟩ := h
  have h1' : d'.size = l.length := by simpa using h1
  refine ⟨h1', ?_⟩
  have e1 : (d'.extract 0 l.toArray.size) = d' := by
    rw [← h1]
    simp
  have e2 : (l.toArray.extract 0 l.toArray.size).toList = l := by simp
  rw [e1, e2] at h3
  exact h3

theorem srt_up {n : Nat} {d' : Array (Int × Int)} (hn : d'.size = n) (h : Sort.SortedIn (ltOf cf2) 0 n d') : d'.toList.Pairwise (fun a b => a.1 ≤ b.1) := by
  rw [List.pairwise_iff_getElem]
  intro i j hi hj hij
  have hi' : i < d'.size := by simpa using hi
  have hj' : j < d'.size := by simpa using hj
  have := h i j (Nat.zero_le _) hij (by omega)
  rw [lt2, getElem!_pos d' i hi', getElem!_pos d' j hj'] at this
  have h2 := of_decide_eq_false this
  simp only [Array.getElem_toList]
  omega

theorem srt_heap (W : World) (g n : Nat) (d' : Array (Int × Int)) (os : Array Obj) (k : Nat) (hk : k < W.heap.size) :
    (sortWorldK enc2 2 W g 0 n d' os).heap[k]? = if g = k then (W.heap[k]?).map (Sort.onCells (Sort.putCells id 0 (Sort.flatK enc2 2 d'))) else W.heap[k]? := by
  show ((W.heap.modify g (Sort.onCells (Sort.putCells id 0 (Sort.flatK enc2 2 d')))) ++ os)[k]? = _
  rw [Array.getElem?_append_left (by simpa using hk), Array.getElem?_modify]

theorem srt_cel {base : Nat} {W : World} {g cap : Nat} {l : List (Int × Int)} (h : CelR base W (.slice (some ⟨g, 0, none⟩) l.length cap) l) (hg0 : g < W.heap.size) (n : Nat) (d' : Array (Int × Int)) (os : Array Obj) (hd : d'.size = l.length) :
    CelR base (sortWorldK enc2 2 W g 0 n d' os) (.slice (some ⟨g, 0, none⟩) l.length cap) d'.toList := by
  obtain ⟨h1, h2⟩ := h
  have hdl : d'.toList.length = l.length := by simpa using hd
  refine ⟨celv_len _, .inr ?_⟩
  rcases h2 with ⟨h2, _⟩ | ⟨g', cap', cur, hv, hb, hgc, hn, hm, hs, ht⟩
  · cases h2
  · injection hv with hv1 hv2 hv3
    injection hv1 with hv1
    injection hv1 with hv1
    subst hv1 hv3
    refine ⟨g, cap, Sort.putCells id 0 (Sort.flatK enc2 2 d') cur, by rw [hdl], hb, ?_, by rw [hdl]; exact hn, hm, by simpa [Sort.putCells] using hs, ?_⟩
    · rw [srt_heap W g n d' os g hg0, if_pos rfl, hgc]
      rfl
    · apply List.ext_getElem?
      intro t
      by_cases hlt : t < d'.toList.length * 2
      · have hcu : t < cur.size := by rw [hs]; rw [hdl] at hlt; omega
        rw [List.getElem?_take_of_lt hlt, celv_flat _ t hlt]
        rw [Array.getElem?_toList]
        unfold Sort.putCells
        rw [Array.getElem?_mapIdx, Array.getElem?_eq_getElem hcu, Option.map_some, if_pos ⟨Nat.zero_le _, by rw [Sort.size_flatK]; rw [hdl] at hlt; omega⟩]
        rfl
      · rw [List.getElem?_take_eq_none (by omega), List.getElem?_eq_none (by rw [celv_len]; omega)]

theorem srt_below {base : Nat} {W : World} {g : Nat} (hb : base ≤ g) (hg0 : g < W.heap.size) (n : Nat) (d' : Array (Int × Int)) (os : Array Obj) : Below base W (sortWorldK enc2 2 W g 0 n d' os) := by
  refine ⟨rfl, rfl, rfl, size_sortWorldK_c enc2 2 W g 0 n d' os, fun k hk => ?_⟩
  rw [srt_heap W g n d' os k (by omega), if_neg (by omega)]

theorem srtAs : SrtAs := by
  intro base v l W h hl hb
  have h' := h
  rcases h'.2 with ⟨rfl, h0⟩ | ⟨g, cap, cur, rfl, hbg, hg, hn, hm, hs, ht⟩
  · have hl0 : l = [] := List.length_eq_zero_iff.1 h0
    subst hl0
    have hcon := AnyF.slices_SortFunc_none Tryz.sortC none 0 (.func (.func 73) #[] #[]) W
    refine Calls.mono hcon ?_
    rintro e w' ⟨rfl, rfl⟩
    exact ⟨rfl, [], .refl _, .nil, h, .refl _ _⟩
  · have hg0 : g < W.heap.size := by
      rcases Nat.lt_or_ge g W.heap.size with h | h
      · exact h
      · rw [Array.getElem?_eq_none h] at hg
        cases hg
    have hH : Sort.HoldsK enc2 2 W g 0 l.toArray := by
      intro t hts
      have hts' : t < l.length * 2 := by simpa using hts
      rw [Nat.zero_add]
      have hcu : t < cur.size := by rw [hs]; omega
      have hc := celv_flat l t hts'
      rw [← ht, List.getElem?_take_of_lt hts'] at hc
      constructor
      · unfold World.cell?
        rw [hg]
        simpa using hc
      · unfold World.frozen?
        rw [hg]
        simp
    have hcon := AnyQ.slices_SortFunc Tryz.sortC 2 Tryz.isAgg178 Tryz.sizeOf178 enc2 (fun _ => rfl) (fun x v hv => by simp [enc2] at hv; rcases hv with rfl | rfl <;> rfl) cf2 swo2 73 #[] g 0 cap l.toArray W (enters_of Tryz.func73 (by kernel_rfl) rfl) (fun _ _ _ _ x y => casc_any x y _) hH hg0 (by simp; omega)
    have hsz : l.toArray.size = l.length := by simp
    refine Calls.mono (by rw [hsz] at hcon; exact hcon) ?_
    rintro e w' ⟨rfl, d', n, os, hp, hso, rfl⟩
    rw [← hsz] at hp
    obtain ⟨hd, hpm⟩ := srt_perm hp
    exact ⟨rfl, d'.toList, hpm, srt_up hd hso, srt_cel h hg0 n d' os hd, srt_below hbg hg0 n d' os⟩

end Go.Proofs.YtlgcmeachjjmgajGreatDoor

namespace Go.Proofs.YtlgcmeachjjmgajGreatDoor

def isDg (c : UInt8) : Bool := 48 ≤ c && c ≤ 57
def isLt (c : UInt8) : Bool := (65 ≤ c && c ≤ 90) || (97 ≤ c && c ≤ 122)
def inWd (c : UInt8) : Bool := isDg c || isLt c || c == 95
/-- without the blanks and remarks ahead -/
def blank : List UInt8 → List UInt8
  | [] => []
  | c :: r => if c == 32 || c == 9 || c == 10 then blank r else if c == 35 then blank (r.dropWhile (· != 10)) else c :: r
termination_by l => l.length
decreasing_by
  · simp
  · have := (List.dropWhile_sublist (l := r) (· != 10)).length_le
    simp; omega
/-- the sign that stands first, and how long it is -/
def sgn : List UInt8 → Nat × Nat
  | [] => (0, 1)
  | c :: r =>
    if c = 61 then (match r with | 61 :: _ => (15, 2) | _ => (14, 1))
    else (if c = 40 then 10 else if c = 41 then 11 else if c = 44 then 12 else if c = 59 then 13 else if c = 43 then 16 else if c = 45 then 17 else if c = 42 then 18 else if c = 47 then 19 else 0, 1)
/-- a word of the language, or none -/
def kwd (t : List UInt8) : Nat :=
  if t = [102, 110] then 4 else if t = [108, 101, 116] then 5 else if t = [110, 101, 101, 100] then 6 else if t = [105, 102] then 7
  else if t = [116, 104, 101, 110] then 8 else if t = [101, 108, 115, 101] then 9 else 2
def wkd : List UInt8 → Nat
  | [] => 0
  | c :: r => if isLt c then kwd (c :: r) else if c = 48 ∧ r ≠ [] then 0 else if (c :: r).all isDg then 3 else 0
structure Tok where
  kind : Nat
  at' : Nat
  text : List UInt8
def tokR (N : Nat) (r : List UInt8) : Tok :=
  if r = [] then ⟨1, N, []⟩
  else if r.takeWhile inWd ≠ [] then ⟨wkd (r.takeWhile inWd), N - r.length, r.takeWhile inWd⟩
  else ⟨(sgn r).1, N - r.length, r.take (sgn r).2⟩
/-- the first token from a place on -/
def tok (L : List UInt8) (a : Nat) : Tok := tokR L.length (blank (L.drop a))
def Tok.nx (t : Tok) : Nat := t.at' + t.text.length

/-- an expression: what it is (the program's own numbers), its name and where that stands, its number, its parts -/
inductive Tr where
  | node (k : Nat) (name : List UInt8) (at' : Nat) (n : Nat) (kids : List Tr)
structure FnT where
  name : List UInt8
  at' : Nat
  more : List (List UInt8 × Nat)
  body : Tr
inductive Res (α : Type) where
  | ok (x : α) (j : Nat)
  | bad (e at' : Nat)
  | out
def Res.bind {α β : Type} (r : Res α) (f : α → Nat → Res β) : Res β := match r with
  | .ok x j => f x j
  | .bad e a => .bad e a
  | .out => .out
def pTake (L : List UInt8) (k a : Nat) : Res Tok := if (tok L a).kind = k then .ok (tok L a) (tok L a).nx else .bad 5 (tok L a).at'
def pEnter (L : List UInt8) (k a l : Nat) : Res Unit := (pTake L k a).bind fun t j => if l = 64 then .bad 9 t.at' else .ok () j
def pName (L : List UInt8) (a : Nat) : Res (List UInt8 × Nat) := (pTake L 2 a).bind fun t j => if 16 < t.text.length then .bad 3 t.at' else .ok (t.text, t.at') j
/-- what digits are -/
def numV (t : List UInt8) : Nat := t.foldl (fun n c => n * 10 + (c.toNat - 48)) 0
def pNum (L : List UInt8) (a : Nat) : Res Tr := (pTake L 3 a).bind fun t j => if 9223372036854775807 < numV t.text then .bad 3 t.at' else .ok (.node 0 [] 0 (numV t.text) []) j

mutual
def pExpr (L : List UInt8) : Nat → Nat → Nat → Res Tr
  | 0, _, _ => .out
  | f + 1, a, l =>
    if (tok L a).kind = 5 then (pEnter L 5 a l).bind fun _ a1 => (pName L a1).bind fun nm a2 => (pTake L 14 a2).bind fun _ a3 => (pExpr L f a3 (l + 1)).bind fun x a4 =>
      (pTake L 13 a4).bind fun _ a5 => (pExpr L f a5 (l + 1)).bind fun y a6 => .ok (.node 9 nm.1 nm.2 0 [x, y]) a6
    else if (tok L a).kind = 6 then (pEnter L 6 a l).bind fun _ a1 => (pSum L f a1 (l + 1)).bind fun x a2 => (pTake L 15 a2).bind fun _ a3 => (pSum L f a3 (l + 1)).bind fun y a4 =>
      (pTake L 13 a4).bind fun _ a5 => (pExpr L f a5 (l + 1)).bind fun z a6 => .ok (.node 10 [] 0 0 [x, y, z]) a6
    else if (tok L a).kind = 7 then (pEnter L 7 a l).bind fun _ a1 => (pExpr L f a1 (l + 1)).bind fun x a2 => (pTake L 8 a2).bind fun _ a3 => (pExpr L f a3 (l + 1)).bind fun y a4 =>
      (pTake L 9 a4).bind fun _ a5 => (pExpr L f a5 (l + 1)).bind fun z a6 => .ok (.node 11 [] 0 0 [x, y, z]) a6
    else (pSum L f a l).bind fun x a1 => if (tok L a1).kind = 15 then (pSum L f (tok L a1).nx l).bind fun y a2 => .ok (.node 8 [] 0 0 [x, y]) a2 else .ok x a1
def pSum (L : List UInt8) : Nat → Nat → Nat → Res Tr
  | 0, _, _ => .out
  | f + 1, a, l => (pProd L f a l).bind fun x j => pSumL L f x j l
def pSumL (L : List UInt8) : Nat → Tr → Nat → Nat → Res Tr
  | 0, _, _, _ => .out
  | f + 1, x, a, l =>
    if (tok L a).kind = 16 then (pProd L f (tok L a).nx l).bind fun y j => pSumL L f (.node 4 [] 0 0 [x, y]) j l
    else if (tok L a).kind = 17 then (pProd L f (tok L a).nx l).bind fun y j => pSumL L f (.node 5 [] 0 0 [x, y]) j l
    else .ok x a
def pProd (L : List UInt8) : Nat → Nat → Nat → Res Tr
  | 0, _, _ => .out
  | f + 1, a, l => (pPart L f a l).bind fun x j => pProdL L f x j l
def pProdL (L : List UInt8) : Nat → Tr → Nat → Nat → Res Tr
  | 0, _, _, _ => .out
  | f + 1, x, a, l =>
    if (tok L a).kind = 18 then (pPart L f (tok L a).nx l).bind fun y j => pProdL L f (.node 6 [] 0 0 [x, y]) j l
    else if (tok L a).kind = 19 then (pPart L f (tok L a).nx l).bind fun y j => pProdL L f (.node 7 [] 0 0 [x, y]) j l
    else .ok x a
def pPart (L : List UInt8) : Nat → Nat → Nat → Res Tr
  | 0, _, _ => .out
  | f + 1, a, l =>
    if (tok L a).kind = 2 then (pName L a).bind fun nm a1 =>
      if (tok L a1).kind = 10 then (pList L f a1 l).bind fun xs a5 => .ok (.node 2 nm.1 nm.2 0 xs) a5
      else .ok (.node 1 nm.1 nm.2 0 []) a1
    else if (tok L a).kind = 10 then (pEnter L 10 a l).bind fun _ a1 => (pExpr L f a1 (l + 1)).bind fun x a2 => (pTake L 11 a2).bind fun _ a3 => .ok x a3
    else if (tok L a).kind = 17 then (pEnter L 17 a l).bind fun _ a1 => (pPart L f a1 (l + 1)).bind fun x a2 => .ok (.node 3 [] 0 0 [x]) a2
    else pNum L a
def pList (L : List UInt8) : Nat → Nat → Nat → Res (List Tr)
  | 0, _, _ => .out
  | f + 1, a, l => (pEnter L 10 a l).bind fun _ a1 =>
      (if (tok L a1).kind = 11 then .ok [] a1 else (pExpr L f a1 (l + 1)).bind fun x a2 => pArgs L f [x] a2 (l + 1)).bind fun xs a3 => (pTake L 11 a3).bind fun _ a4 => .ok xs a4
def pArgs (L : List UInt8) : Nat → List Tr → Nat → Nat → Res (List Tr)
  | 0, _, _, _ => .out
  | f + 1, xs, a, l => if (tok L a).kind = 12 then (pExpr L f (tok L a).nx l).bind fun x j => pArgs L f (xs ++ [x]) j l else .ok xs a
end
def pNames (L : List UInt8) : Nat → List (List UInt8 × Nat) → Nat → Res (List (List UInt8 × Nat))
  | 0, _, _ => .out
  | f + 1, xs, a => if (tok L a).kind = 12 then (pName L (tok L a).nx).bind fun x j => pNames L f (xs ++ [x]) j else .ok xs a
/-- names in brackets -/
def pBrack (L : List UInt8) (f a : Nat) : Res (List (List UInt8 × Nat)) :=
  (pTake L 10 a).bind fun _ a1 => (if (tok L a1).kind = 11 then .ok [] a1 else (pName L a1).bind fun x a2 => pNames L f [x] a2).bind fun xs a3 => (pTake L 11 a3).bind fun _ a4 => .ok xs a4
def pFun (L : List UInt8) (f a : Nat) : Res FnT :=
  (pTake L 4 a).bind fun _ a1 => (pName L a1).bind fun nm a2 => (pBrack L f a2).bind fun more a3 => (pTake L 14 a3).bind fun _ a4 => (pExpr L f a4 0).bind fun x a5 => .ok ⟨nm.1, nm.2, more, x⟩ a5
def pProg (L : List UInt8) : Nat → List FnT → Nat → Res (List FnT)
  | 0, _, _ => .out
  | f + 1, gs, a => if (tok L a).kind = 1 then .ok gs a else (pFun L f a).bind fun g j => pProg L f (gs ++ [g]) j

theorem blank_le : ∀ (n : Nat) (l : List UInt8), l.length ≤ n → (blank l).length ≤ l.length
  | _, [], _ => by rw [blank]; simp
  | 0, c :: r, h => by simp at h
  | n + 1, c :: r, h => by
    rw [blank]
    simp at h
    have h2 := (List.dropWhile_sublist (l := r) (· != 10)).length_le
    split
    · have := blank_le n r h
      simp; omega
    · split
      · have := blank_le n (r.dropWhile (· != 10)) (by omega)
        simp; omega
      · simp
theorem blank_len (l : List UInt8) : (blank l).length ≤ l.length := blank_le _ l (Nat.le_refl _)
theorem kwd_ne (t : List UInt8) : kwd t ≠ 1 ∧ kwd t ≤ 9 ∧ kwd t ≠ 0 ∧ kwd t ≠ 3 := by
  unfold kwd
  repeat (split; decide)
  decide
theorem wkd_ne (t : List UInt8) : wkd t ≠ 1 ∧ wkd t ≤ 9 := by
  cases t with
  | nil => decide
  | cons c r =>
    rw [wkd]
    split
    · exact ⟨(kwd_ne _).1, (kwd_ne _).2.1⟩
    · split
      · decide
      · split <;> decide
theorem sgn_two (r : List UInt8) : ((sgn r).1 ≠ 1 ∧ ((sgn r).1 = 0 ∨ 10 ≤ (sgn r).1) ∧ (sgn r).1 ≤ 19) ∧ 1 ≤ (sgn r).2 ∧ (r ≠ [] → (sgn r).2 ≤ r.length) := by
  match r with
  | [] => decide
  | c :: r =>
    unfold sgn
    simp only
    split
    · split
      · simp
      · simp
    · refine ⟨?_, Nat.le_refl _, by simp⟩
      repeat (split; decide)
      decide
/-- where a token lies -/
theorem tok_at (L : List UInt8) (a : Nat) (h : a ≤ L.length) : a ≤ (tok L a).at' ∧ (tok L a).nx ≤ L.length ∧ (tok L a).at' ≤ L.length ∧ ((tok L a).kind ≠ 1 → (tok L a).at' < (tok L a).nx) ∧ ((tok L a).kind = 1 → (tok L a).text = [] ∧ (tok L a).at' = L.length) := by
  have hb := blank_len (L.drop a)
  rw [List.length_drop] at hb
  unfold Tok.nx tok
  generalize blank (L.drop a) = r at hb
  unfold tokR
  by_cases hr : r = []
  · rw [if_pos hr]
    simp
    exact h
  · have h0 : 0 < r.length := List.length_pos_iff.2 hr
    rw [if_neg hr]
    split
    · rename_i ht
      have h1 := (List.takeWhile_sublist (l := r) inWd).length_le
      have h2 : 0 < (r.takeWhile inWd).length := List.length_pos_iff.2 ht
      refine ⟨by simp; omega, by simp; omega, by simp, fun _ => by simp; exact h2, fun h3 => absurd h3 (wkd_ne _).1⟩
    · have h3 := sgn_two r
      have h4 := h3.2.2 hr
      refine ⟨by simp; omega, by simp; omega, by simp, fun _ => by simp [List.length_take]; omega, fun h5 => absurd h5 h3.1.1⟩
theorem tok_nx (L : List UInt8) (a : Nat) (h : a ≤ L.length) : a ≤ (tok L a).nx := by
  have := (tok_at L a h).1
  unfold Tok.nx
  omega

end Go.Proofs.YtlgcmeachjjmgajGreatDoor

namespace Go.Proofs.YtlgcmeachjjmgajGreatDoor

/-- a result that is one, behind a place -/
def Res.Fw {α : Type} (N a : Nat) : Res α → Prop
  | .ok _ j => a ≤ j ∧ j ≤ N
  | .bad _ _ => True
  | .out => False
theorem Res.Fw.bind {α β : Type} {N a b : Nat} {r : Res α} {f : α → Nat → Res β} (h : r.Fw N a) (hf : ∀ x j, r = .ok x j → a ≤ j → j ≤ N → (f x j).Fw N b) : (r.bind f).Fw N b := by
  cases r with
  | ok x j => exact hf x j rfl h.1 h.2
  | bad e at' => trivial
  | out => exact h
theorem Res.Fw.mono {α : Type} {N a b : Nat} {r : Res α} (h : r.Fw N a) (hb : b ≤ a) : r.Fw N b := by
  cases r with
  | ok x j => exact ⟨Nat.le_trans hb h.1, h.2⟩
  | bad e at' => trivial
  | out => exact h
theorem pTake_fw (L : List UInt8) (k a : Nat) (h : a ≤ L.length) (hk : k ≠ 1) : (pTake L k a).Fw L.length (a + 1) := by
  unfold pTake
  have h1 := tok_at L a h
  split
  · rename_i e
    have := h1.2.2.2.1 (by rw [e]; exact hk)
    exact ⟨by have := h1.1; omega, h1.2.1⟩
  · trivial
theorem pEnter_fw (L : List UInt8) (k a l : Nat) (h : a ≤ L.length) (hk : k ≠ 1) : (pEnter L k a l).Fw L.length (a + 1) := by
  refine (pTake_fw L k a h hk).bind fun x j _ h1 h2 => ?_
  split
  · trivial
  · exact ⟨h1, h2⟩
theorem pName_fw (L : List UInt8) (a : Nat) (h : a ≤ L.length) : (pName L a).Fw L.length (a + 1) := by
  refine (pTake_fw L 2 a h (by decide)).bind fun x j _ h1 h2 => ?_
  split
  · trivial
  · exact ⟨h1, h2⟩
theorem pNum_fw (L : List UInt8) (a : Nat) (h : a ≤ L.length) : (pNum L a).Fw L.length (a + 1) := by
  refine (pTake_fw L 3 a h (by decide)).bind fun x j _ h1 h2 => ?_
  split
  · trivial
  · exact ⟨h1, h2⟩
theorem nx_fw (L : List UInt8) (a k : Nat) (h : a ≤ L.length) (hk : (tok L a).kind = k) (h1 : k ≠ 1) : a + 1 ≤ (tok L a).nx ∧ (tok L a).nx ≤ L.length := by
  have h2 := tok_at L a h
  have := h2.2.2.2.1 (by rw [hk]; exact h1)
  exact ⟨by have := h2.1; omega, h2.2.1⟩

/-- with so much fuel there is a result -/
theorem p_fw (L : List UInt8) : ∀ (f : Nat),
    (∀ a l, a ≤ L.length → 4 * (L.length - a) + 4 ≤ f → (pExpr L f a l).Fw L.length (a + 1)) ∧
    (∀ a l, a ≤ L.length → 4 * (L.length - a) + 3 ≤ f → (pSum L f a l).Fw L.length (a + 1)) ∧
    (∀ x a l, a ≤ L.length → 4 * (L.length - a) + 1 ≤ f → (pSumL L f x a l).Fw L.length a) ∧
    (∀ a l, a ≤ L.length → 4 * (L.length - a) + 2 ≤ f → (pProd L f a l).Fw L.length (a + 1)) ∧
    (∀ x a l, a ≤ L.length → 4 * (L.length - a) + 1 ≤ f → (pProdL L f x a l).Fw L.length a) ∧
    (∀ a l, a ≤ L.length → 4 * (L.length - a) + 1 ≤ f → (pPart L f a l).Fw L.length (a + 1)) ∧
    (∀ a l, a ≤ L.length → 4 * (L.length - a) + 1 ≤ f → (pList L f a l).Fw L.length (a + 1)) ∧
    (∀ xs a l, a ≤ L.length → 4 * (L.length - a) + 1 ≤ f → (pArgs L f xs a l).Fw L.length a)
  | 0 => by
    refine ⟨?_, ?_, ?_, ?_, ?_, ?_, ?_, ?_⟩
    all_goals (intros; omega)
  | f + 1 => by
    obtain ⟨iE, iS, iSL, iP, iPL, iX, iLs, iA⟩ := p_fw L f
    refine ⟨?_, ?_, ?_, ?_, ?_, ?_, ?_, ?_⟩
    · intro a l ha hf
      rw [pExpr]
      split
      · refine (pEnter_fw L 5 a l ha (by decide)).bind fun _ a1 _ h1 m1 => ?_
        refine (pName_fw L a1 m1).bind fun nm a2 _ h2 m2 => ?_
        refine (pTake_fw L 14 a2 m2 (by decide)).bind fun _ a3 _ h3 m3 => ?_
        refine (iE a3 _ m3 (by omega)).bind fun _ a4 _ h4 m4 => ?_
        refine (pTake_fw L 13 a4 m4 (by decide)).bind fun _ a5 _ h5 m5 => ?_
        refine (iE a5 _ m5 (by omega)).bind fun _ a6 _ h6 m6 => ?_
        exact ⟨by omega, m6⟩
      · split
        · refine (pEnter_fw L 6 a l ha (by decide)).bind fun _ a1 _ h1 m1 => ?_
          refine (iS a1 _ m1 (by omega)).bind fun _ a2 _ h2 m2 => ?_
          refine (pTake_fw L 15 a2 m2 (by decide)).bind fun _ a3 _ h3 m3 => ?_
          refine (iS a3 _ m3 (by omega)).bind fun _ a4 _ h4 m4 => ?_
          refine (pTake_fw L 13 a4 m4 (by decide)).bind fun _ a5 _ h5 m5 => ?_
          refine (iE a5 _ m5 (by omega)).bind fun _ a6 _ h6 m6 => ?_
          exact ⟨by omega, m6⟩
        · split
          · refine (pEnter_fw L 7 a l ha (by decide)).bind fun _ a1 _ h1 m1 => ?_
            refine (iE a1 _ m1 (by omega)).bind fun _ a2 _ h2 m2 => ?_
            refine (pTake_fw L 8 a2 m2 (by decide)).bind fun _ a3 _ h3 m3 => ?_
            refine (iE a3 _ m3 (by omega)).bind fun _ a4 _ h4 m4 => ?_
            refine (pTake_fw L 9 a4 m4 (by decide)).bind fun _ a5 _ h5 m5 => ?_
            refine (iE a5 _ m5 (by omega)).bind fun _ a6 _ h6 m6 => ?_
            exact ⟨by omega, m6⟩
          · refine (iS a l ha (by omega)).bind fun _ a1 _ h1 m1 => ?_
            split
            · rename_i hk
              obtain ⟨h2, m2⟩ := nx_fw L a1 15 m1 hk (by decide)
              refine (iS _ l m2 (by omega)).bind fun _ a3 _ h3 m3 => ?_
              exact ⟨by omega, m3⟩
            · exact ⟨h1, m1⟩
    · intro a l ha hf
      rw [pSum]
      refine (iP a l ha (by omega)).bind fun x a1 _ h1 m1 => ?_
      exact (iSL x a1 l m1 (by omega)).mono h1
    · intro x a l ha hf
      rw [pSumL]
      split
      · rename_i hk
        obtain ⟨h2, m2⟩ := nx_fw L a 16 ha hk (by decide)
        refine (iP _ l m2 (by omega)).bind fun _ a3 _ h3 m3 => ?_
        exact (iSL _ a3 l m3 (by omega)).mono (by omega)
      · split
        · rename_i hk
          obtain ⟨h2, m2⟩ := nx_fw L a 17 ha hk (by decide)
          refine (iP _ l m2 (by omega)).bind fun _ a3 _ h3 m3 => ?_
          exact (iSL _ a3 l m3 (by omega)).mono (by omega)
        · exact ⟨Nat.le_refl _, ha⟩
    · intro a l ha hf
      rw [pProd]
      refine (iX a l ha (by omega)).bind fun x a1 _ h1 m1 => ?_
      exact (iPL x a1 l m1 (by omega)).mono h1
    · intro x a l ha hf
      rw [pProdL]
      split
      · rename_i hk
        obtain ⟨h2, m2⟩ := nx_fw L a 18 ha hk (by decide)
        refine (iX _ l m2 (by omega)).bind fun _ a3 _ h3 m3 => ?_
        exact (iPL _ a3 l m3 (by omega)).mono (by omega)
      · split
        · rename_i hk
          obtain ⟨h2, m2⟩ := nx_fw L a 19 ha hk (by decide)
          refine (iX _ l m2 (by omega)).bind fun _ a3 _ h3 m3 => ?_
          exact (iPL _ a3 l m3 (by omega)).mono (by omega)
        · exact ⟨Nat.le_refl _, ha⟩
    · intro a l ha hf
      rw [pPart]
      split
      · refine (pName_fw L a ha).bind fun nm a1 _ h1 m1 => ?_
        split
        · refine (iLs a1 l m1 (by omega)).bind fun xs a2 _ h2 m2 => ?_
          exact ⟨by omega, m2⟩
        · exact ⟨h1, m1⟩
      · split
        · refine (pEnter_fw L 10 a l ha (by decide)).bind fun _ a1 _ h1 m1 => ?_
          refine (iE a1 _ m1 (by omega)).bind fun _ a2 _ h2 m2 => ?_
          refine (pTake_fw L 11 a2 m2 (by decide)).bind fun _ a3 _ h3 m3 => ?_
          exact ⟨by omega, m3⟩
        · split
          · refine (pEnter_fw L 17 a l ha (by decide)).bind fun _ a1 _ h1 m1 => ?_
            refine (iX a1 _ m1 (by omega)).bind fun _ a2 _ h2 m2 => ?_
            exact ⟨by omega, m2⟩
          · exact pNum_fw L a ha
    · intro a l ha hf
      rw [pList]
      refine (pEnter_fw L 10 a l ha (by decide)).bind fun _ a1 _ h1 m1 => ?_
      refine Res.Fw.bind (a := a1) ?_ fun xs a3 _ h3 m3 => ?_
      · split
        · exact ⟨Nat.le_refl _, m1⟩
        · refine (iE a1 _ m1 (by omega)).bind fun x a2 _ h2 m2 => ?_
          exact (iA _ a2 _ m2 (by omega)).mono (by omega)
      · refine (pTake_fw L 11 a3 m3 (by decide)).bind fun _ a4 _ h4 m4 => ?_
        exact ⟨by omega, m4⟩
    · intro xs a l ha hf
      rw [pArgs]
      split
      · rename_i hk
        obtain ⟨h2, m2⟩ := nx_fw L a 12 ha hk (by decide)
        refine (iE _ l m2 (by omega)).bind fun _ a3 _ h3 m3 => ?_
        exact (iA _ a3 l m3 (by omega)).mono (by omega)
      · exact ⟨Nat.le_refl _, ha⟩
theorem pNames_fw (L : List UInt8) : ∀ (f : Nat) (xs : List (List UInt8 × Nat)) (a : Nat), a ≤ L.length → L.length - a + 1 ≤ f → (pNames L f xs a).Fw L.length a
  | 0, _, _, _, h => by omega
  | f + 1, xs, a, ha, hf => by
    rw [pNames]
    split
    · rename_i hk
      obtain ⟨h2, m2⟩ := nx_fw L a 12 ha hk (by decide)
      refine (pName_fw L _ m2).bind fun x j _ h3 m3 => ?_
      exact (pNames_fw L f _ j m3 (by omega)).mono (by omega)
    · exact ⟨Nat.le_refl _, ha⟩
theorem pBrack_fw (L : List UInt8) (f a : Nat) (ha : a ≤ L.length) (hf : L.length - a ≤ f) : (pBrack L f a).Fw L.length (a + 1) := by
  unfold pBrack
  refine (pTake_fw L 10 a ha (by decide)).bind fun _ a1 _ h1 m1 => ?_
  refine Res.Fw.bind (a := a1) ?_ fun xs a3 _ h3 m3 => ?_
  · split
    · exact ⟨Nat.le_refl _, m1⟩
    · refine (pName_fw L a1 m1).bind fun x a2 _ h2 m2 => ?_
      exact (pNames_fw L f _ a2 m2 (by omega)).mono (by omega)
  · refine (pTake_fw L 11 a3 m3 (by decide)).bind fun _ a4 _ h4 m4 => ?_
    exact ⟨by omega, m4⟩
theorem pFun_fw (L : List UInt8) (f a : Nat) (ha : a ≤ L.length) (hf : 4 * (L.length - a) ≤ f) : (pFun L f a).Fw L.length (a + 1) := by
  unfold pFun
  refine (pTake_fw L 4 a ha (by decide)).bind fun _ a1 _ h1 m1 => ?_
  refine (pName_fw L a1 m1).bind fun nm a2 _ h2 m2 => ?_
  refine (pBrack_fw L f a2 m2 (by omega)).bind fun more a3 _ h3 m3 => ?_
  refine (pTake_fw L 14 a3 m3 (by decide)).bind fun _ a4 _ h4 m4 => ?_
  refine ((p_fw L f).1 a4 0 m4 (by omega)).bind fun x a5 _ h5 m5 => ?_
  exact ⟨by omega, m5⟩
theorem pProg_fw (L : List UInt8) : ∀ (f : Nat) (gs : List FnT) (a : Nat), a ≤ L.length → 4 * (L.length - a) + 1 ≤ f → (pProg L f gs a).Fw L.length a
  | 0, _, _, _, h => by omega
  | f + 1, gs, a, ha, hf => by
    rw [pProg]
    split
    · exact ⟨Nat.le_refl _, ha⟩
    · refine (pFun_fw L f a ha (by omega)).bind fun g j _ h1 m1 => ?_
      exact (pProg_fw L f _ j m1 (by omega)).mono (by omega)

end Go.Proofs.YtlgcmeachjjmgajGreatDoor
