/- Package machine: Run. Runs, plainly: a greater limit; one ascending list. Runs, plainly: what is told is told for good. attestref6.Run, plainly: the least cell above a number, again and again. attestlaw6: rans, plain. attestlaw6: plain, lives. -/
import Derived.Test.YtdpdmgmeieijaaaGreatDoorSndAL
import Derived.Test.YtdpdmgmeieijaaaGreatDoorSndAM
import Derived.Test.YtdpdmgmeieijaaaGreatDoorFld
namespace Go.Proofs.YtdpdmgmeieijaaaGreatDoor
open Go.RowKit Go.Maps

theorem results_ctM {P : Program} {fn : Func} {p u : Tmp} {ty : TypeId} (h : fn.results = #[.cell p ty, .tmp u]) (tmps : Array Value) (w : World) (g : Nat) (tt : TypeId) (cs : Array Value) (fr : Nat × Nat) (d : TypeDesc)
    (hp : tmps.getD p undef = .pointer (some ⟨g, 0, none⟩)) (hg : w.heap[g]? = some (.cells cs tt fr))
    (hu : P.underlying ty = some d) (hd : (match d with | .struct _ | .array _ _ => true | _ => false) = true) (hi : (P.info? ty).map (·.size) = some cs.size) :
    (results fn tmps).run P w = .ok (.tuple #[.agg cs, tmps.getD u undef]) w := by
  have hp' : tmps[p]?.getD undef = .pointer (some ⟨g, 0, none⟩) := by simpa using hp
  simp [results, h, hp', asAddr, run_loadVar_row w g tt ty cs fr d hg hu hd hi]
theorem mgo_len (p : Nat) (L : List InsZ) (limit : Nat) : ∀ (f : Nat) (s : RM) (done l : List (List Int)) (cs : List (Int × Int)), mgo p L limit f s done = .good l cs → 0 < l.length ∧ l.length ≤ done.length + f
  | 0, _, _, _, _, h => by simp [mgo] at h
  | f + 1, s, done, l, cs, h => by
    rw [mgo] at h
    split at h
    · cases h
    · split at h
      · cases h
      · split at h
        · cases h
        · split at h
          · injection h with h1 _
            rw [← h1]
            simp
          · have := mgo_len p L limit f _ _ l cs h
            simp at this
            exact ⟨this.1, by omega⟩
theorem mgo_bad (p : Nat) (L : List InsZ) (limit : Nat) : ∀ (f : Nat) (s : RM) (done : List (List Int)) (z : Int), mgo p L limit f s done = .bad z → z ≠ 0
  | 0, _, _, _, h => by simp [mgo] at h; omega
  | f + 1, s, done, z, h => by
    rw [mgo] at h
    split at h
    · injection h with h; omega
    · split at h
      · injection h with h; omega
      · split at h
        · rename_i h1
          injection h with h
          rw [← h]
          exact h1
        · split at h
          · cases h
          · exact mgo_bad p L limit f _ _ z h
/-- what a run comes to: the first cell of its last step -/
def outv (l : List (List Int)) : Int := match (stvs l)[(l.length - 1) * 10 + 7]? with
  | some (.int _ x) => x
  | _ => 0
/-- what Run gives -/
def RuR (p : Nat) (size : Int) (L : List InsZ) (limit : Int) (w : World) (e : Ending) (w' : World) : Prop := Below w.heap.size w w' ∧
  if fz6 (p : Int) size L.length limit ≠ 0 then e = .returned (.tuple #[.agg #[.int .i64 0, .int .i64 0, .slice none 0 0], errV (fz6 (p : Int) size L.length limit)])
  else match mwalk p size L limit.toNat with
    | .bad z => e = .returned (.tuple #[.agg #[.int .i64 0, .int .i64 0, .slice none 0 0], errV z])
    | .good l cs => ∃ v l', e = .returned (.tuple #[.agg #[.int .i64 (outv l), .int .i64 ((l.length - 1 : Nat) : Int), v], .nilIface]) ∧ CelR w.heap.size w' v l' ∧ AscC cs l'

set_option maxRecDepth 100000 in
set_option maxHeartbeats 2000000 in
theorem prun_any (SO : SrtAs) (p b : Nat) (size limit : Int) (aL : Option Addr) (cL : Nat) (L : List InsZ) (w : World) (h3 : 3 ≤ p) (h4 : p ≤ 2147483647) (hpr : Num.Prime p) (hp : w.cell? ⟨b, 0, none⟩ = some (.int .i64 p)) (hn : L.length ≤ 281474976710656) (hL : LstI w.heap.size w aL cL L) (hIB : InsB L) :
    Calls Tryz.prog 9 #[.pointer (some ⟨b, 0, none⟩), .agg #[.int .i64 size, .slice aL L.length cL], .int .i64 limit] w (RuR p size L limit w) := by
  obtain ⟨V, hV⟩ : ∃ V, V = w.alloc (.cells #[.int .i64 size, .slice aL L.length cL] 24) := ⟨_, rfl⟩
  obtain ⟨W0, hW0⟩ : ∃ W0, W0 = V.alloc (.cells #[.int .i64 0, .int .i64 0, .slice none 0 0] 36) := ⟨_, rfl⟩
  have b1 : Below w.heap.size w V := by rw [hV]; exact (Below.refl _ _).alloc (Nat.le_refl _) _
  have hs : V.heap.size = w.heap.size + 1 := by rw [hV]; simp
  have b2 : Below V.heap.size V W0 := by rw [hW0]; exact (Below.refl _ _).alloc (Nat.le_refl _) _
  have hb0 := b1.trans (b2.mono b1.size)
  have hr0 : W0.heap[w.heap.size + 1]? = some (.cells #[.int .i64 0, .int .i64 0, .slice none 0 0] 36 (0, 0)) := by rw [hW0, ← hs]; exact heap_alloc_new V _
  have HWD := hid (pwalked_any p b size limit aL cL L W0 h3 h4 hpr ((hb0.cell (p := ⟨b, 0, none⟩) (World.block_lt_of_cell? _ _ hp)).trans hp) hn ((hL.below hb0).mono hb0.size) hIB)
  have HB0 := hid hb0
  have HR0 := hid hr0
  have HSO := hid SO
  obtain ⟨nL, hnL⟩ : ∃ nL, nL = L.length := ⟨_, rfl⟩
  rw [← hnL] at HWD hV ⊢
  rw [hV] at hW0
  clear b1 hs b2 hb0 hr0 hV hp hn hL hIB hpr SO h3 h4 hnL
  go_enter Tryz.func9, Tryz.ntmps9
  go_wp2_with fail
  rw [← hW0]
  clear hW0
  refine HWD.out.mono ?_
  rintro e w1 ⟨hb1, hr1⟩
  have HR1 := hid ((hb1.block _ (Array.getElem?_eq_some_iff.1 HR0.out).1).trans HR0.out)
  have HB1 := hid (HB0.out.trans (hb1.mono HB0.out.size))
  have d0 : w1.cell? ⟨w.heap.size + 1, 0, none⟩ = some (.int .i64 0) := by simp [World.cell?, HR1.out]
  have d1 : w1.cell? ⟨w.heap.size + 1, 1, none⟩ = some (.int .i64 0) := by simp [World.cell?, HR1.out]
  have d2 : w1.cell? ⟨w.heap.size + 1, 2, none⟩ = some (.slice none 0 0) := by simp [World.cell?, HR1.out]
  have df := (row3_of HR1.out).frozen
  have HCASE : Hid ((∃ z, z ≠ 0 ∧ e = .returned (.tuple #[.slice none 0 0, .map none, errV z]) ∧ ∀ w', Below w.heap.size w w' → RuR p size L limit w (.returned (.tuple #[.agg #[.int .i64 0, .int .i64 0, .slice none 0 0], errV z])) w') ∨ ∃ l cs v B, 0 < l.length ∧ l.length ≤ 16385 ∧ e = .returned (.tuple #[v, .map (some B), .nilIface]) ∧ StR W0.heap.size w1 v l ∧ MapAt w1 B (1 + 2 * l.length) cs ∧ ∀ w' v l', Below w.heap.size w w' → CelR w.heap.size w' v l' → AscC cs l' → RuR p size L limit w (.returned (.tuple #[.agg #[.int .i64 (outv l), .int .i64 ((l.length - 1 : Nat) : Int), v], .nilIface])) w') := by
    by_cases hz : fz6 (p : Int) size L.length limit ≠ 0
    · rw [if_pos hz] at hr1
      exact .inl ⟨_, hz, hr1, fun w' hb => ⟨hb, by rw [if_pos hz]⟩⟩
    · rw [if_neg hz] at hr1
      have hlm : 0 ≤ limit ∧ limit ≤ 16384 := by
        have hz0 : fz6 (p : Int) size L.length limit = 0 := Decidable.byContradiction hz
        unfold fz6 at hz0
        split at hz0
        · omega
        · split at hz0 <;> omega
      cases hX : mwalk p size L limit.toNat with
      | bad z =>
        rw [hX] at hr1
        exact .inl ⟨z, mgo_bad _ _ _ _ _ _ _ hX, hr1, fun w' hb => ⟨hb, by rw [if_neg hz, hX]⟩⟩
      | good l cs =>
        rw [hX] at hr1
        obtain ⟨v, B, h1, h2, h5⟩ := hr1
        have hln := mgo_len _ _ _ _ _ _ _ _ hX
        refine .inr ⟨l, cs, v, B, hln.1, by have := hln.2; simp at this; omega, h1, h2, h5, fun w' v' l' hb hc ha => ⟨hb, ?_⟩⟩
        rw [if_neg hz, hX]
        exact ⟨v', l', rfl, hc, ha⟩
  clear hr1 HWD HR0 HB0
  rcases HCASE.out with ⟨z, hz, rfl, hE⟩ | ⟨l, cs, v, B, hl0, hl1, rfl, hs1, hm1, hE⟩
  · rw [errV_nz hz] at hE ⊢
    have HP3 := hid (put3_heap HR1.out (.int .i64 0) (.int .i64 0) (.slice none 0 0))
    have HE := hid (hE _ (put3_below HB1.out (Nat.le_succ _) (g := w.heap.size + 1) (.int .i64 0) (.int .i64 0) (.slice none 0 0)))
    clear hE HCASE hz HSO hb1
    go_wp2_with fail
    (try simp only [Exit.inBlock, Exit.then])
    refine bodyPost_ret (results_ctM rfl _ _ (w.heap.size + 1) 36 #[.int .i64 0, .int .i64 0, .slice none 0 0] (0, 0) _ rfl HP3.out Tryz.underlying36 rfl (by kernel_rfl)) rfl ?_
    exact HE.out
  · obtain ⟨av, cv, rfl⟩ := hs1.form
    obtain ⟨g, cap, e1, _, hcl⟩ := hs1.cells hl0
    injection e1 with e1 _ e3
    subst e1 e3
    obtain ⟨o, ho⟩ := stvs_int l ((l.length - 1) * 10 + 7) (by rw [hs1.1]; omega)
    have hou : outv l = o := by unfold outv; rw [ho]
    rw [hou] at hE
    have ko := hcl _ _ ho
    have HAS := hid (fun W (h : MapAt W B (1 + 2 * l.length) cs) => pasc_any HSO.out B (1 + 2 * l.length) cs W h (by omega))
    obtain ⟨n, hn⟩ : ∃ n, n = l.length := ⟨_, rfl⟩
    rw [← hn] at hl0 hl1 hm1 hE HAS ko ⊢
    obtain ⟨k, hk⟩ : ∃ k, n = k + 1 := ⟨n - 1, by omega⟩
    subst hk
    rw [Nat.add_sub_cancel] at ko hE
    have hsub : IntKind.i64.wrap (((k + 1 : Nat) : Int) - 1) = (k : Int) := by rw [IntKind.wrap_i64]; omega
    have HM1 := hid hm1
    have HEE := hid hE
    have hkl : (k : Int) < ((k + 1 : Nat) : Int) := by omega
    clear hE HCASE hs1 hcl ho hou hn hm1 HSO hb1
    go_wp2_with fail
    refine wp_region_held_drew (S := (fun W => W.cell? ⟨g, k * 10 + 7, none⟩ = some (.int .i64 o))) (by kernel_rfl) ko (fun hHeld => ?_)
    refine wpAnyH_takeW (i := 0) (v := .slice (some ⟨g, 0, none⟩) (k + 1) cv) rfl (by kernel_rfl) (by kernel_rfl) (by kernel_rfl) (fun _ _ _ h => h) (by rfl) (fun W hC => by go_simp) hHeld ?_
    simp only [Act.put, List.setIfInBounds_toArray, List.set_cons_zero, List.set_cons_succ]
    refine wpAnyH_takeW (i := 1) (v := .int .i64 (k : Int)) rfl (by kernel_rfl) (by kernel_rfl) (by kernel_rfl) (fun _ _ _ h => h) (by rfl) (fun W hC => by go_simp) hHeld ?_
    simp only [Act.put, List.setIfInBounds_toArray, List.set_cons_zero, List.set_cons_succ]
    refine wpAnyH_takeW (i := 2) (v := .pointer (some ⟨g, k * 10, none⟩)) rfl (by kernel_rfl) (by kernel_rfl) (by kernel_rfl) (fun _ _ _ h => h) (by rfl) (fun W hC => by (go_simp; intro hh; omega)) hHeld ?_
    simp only [Act.put, List.setIfInBounds_toArray, List.set_cons_zero, List.set_cons_succ]
    refine wpAnyH_takeW (i := 3) (v := .pointer (some ⟨g, k * 10 + 7, none⟩)) rfl (by kernel_rfl) (by kernel_rfl) (by kernel_rfl) (fun _ _ _ h => h) (by rfl) (fun W hC => by go_simp) hHeld ?_
    simp only [Act.put, List.setIfInBounds_toArray, List.set_cons_zero, List.set_cons_succ]
    refine wpAnyH_takeW (i := 4) (v := .pointer (some ⟨g, k * 10 + 7, none⟩)) rfl (by kernel_rfl) (by kernel_rfl) (by kernel_rfl) (fun _ _ _ h => h) (by rfl) (fun W hC => by go_simp) hHeld ?_
    simp only [Act.put, List.setIfInBounds_toArray, List.set_cons_zero, List.set_cons_succ]
    refine wpAnyH_takeW (i := 5) (v := .int .i64 o) rfl (by kernel_rfl) (by kernel_rfl) (by kernel_rfl) (fun _ _ _ h => h) (by rfl) (fun W hC => by go_simp) hHeld ?_
    simp only [Act.put, List.setIfInBounds_toArray, List.set_cons_zero, List.set_cons_succ]
    refine wpAnyH_takeW (i := 6) (v := .int .i64 (k : Int)) rfl (by kernel_rfl) (by kernel_rfl) (by kernel_rfl) (fun _ _ _ h => h) (by rfl) (fun W hC => by go_simp) hHeld ?_
    simp only [Act.put, List.setIfInBounds_toArray, List.set_cons_zero, List.set_cons_succ]
    refine wpAnyH_takeW (i := 7) (v := .map (some B)) rfl (by kernel_rfl) (by kernel_rfl) (by kernel_rfl) (fun _ _ _ h => h) (by rfl) (fun W hC => by go_simp) hHeld ?_
    simp only [Act.put, List.setIfInBounds_toArray, List.set_cons_zero, List.set_cons_succ]
    refine wpAnyH_ready (rs := [8]) (by kernel_rfl) (by simp) ?_
    refine AllReadyH.consW rfl (fun K hK => ?_) AllReadyH.nil
    go_simp
    refine (HAS.out w1.drew HM1.out).mono ?_
    rintro e w2 ⟨v, l', rfl, hcl, hasc, hb2⟩
    have hb12 : Below w1.heap.size w1 w2 := ⟨hb2.os, hb2.tape, hb2.output, hb2.size, hb2.block⟩
    obtain ⟨a2, c2, rfl⟩ := hcl.form
    have ko2 := (hb12.cell (p := ⟨g, k * 10 + 7, none⟩) (World.block_lt_of_cell? _ _ ko)).trans ko
    have HR2 := hid ((hb12.block _ (Array.getElem?_eq_some_iff.1 HR1.out).1).trans HR1.out)
    have HB2 := hid (HB1.out.trans (hb12.mono HB1.out.size))
    have HCL := hid hcl
    have HAC := hid hasc
    have hlt1 := hb12.size
    have HGE : Hid (w.heap.size + 1 < w1.heap.size) := (Array.getElem?_eq_some_iff.1 HR1.out).1
    have HGG : Hid (g ≠ w.heap.size + 1) := by
      rintro rfl
      have h5 := World.block_lt_of_cell? _ _ ko
      have h6 := ko
      have h7 := HR1.out
      have : (k * 10 + 7) < 3 := by
        simp only [World.cell?, h7] at h6
        obtain ⟨h8, _⟩ := Array.getElem?_eq_some_iff.1 h6
        simpa using h8
      omega
    refine hK.out _ _ ko2 (fun hHeld => ?_)
    clear hK K hcl hasc hb2 hb12 d0 d1 d2 df HAS HM1
    have d0 : w2.cell? ⟨w.heap.size + 1, 0, none⟩ = some (.int .i64 0) := by simp [World.cell?, HR2.out]
    have d1 : w2.cell? ⟨w.heap.size + 1, 1, none⟩ = some (.int .i64 0) := by simp [World.cell?, HR2.out]
    have d2 : w2.cell? ⟨w.heap.size + 1, 2, none⟩ = some (.slice none 0 0) := by simp [World.cell?, HR2.out]
    have df := (row3_of HR2.out).frozen
    refine wpAnyH_takeW (i := 9) (v := .agg #[.int .i64 o, .int .i64 (k : Int), .slice a2 l'.length c2]) rfl (by kernel_rfl) (by kernel_rfl) (by kernel_rfl) (fun _ _ _ h => h) (by rfl) (fun W hC => by go_simp) hHeld ?_
    simp only [Act.put, List.setIfInBounds_toArray, List.set_cons_zero, List.set_cons_succ]
    have HP3 := hid (put3_heap HR2.out (.int .i64 o) (.int .i64 (k : Int)) (.slice a2 l'.length c2))
    have HK3 : Hid ((((w2.setCell ⟨w.heap.size + 1, 0, none⟩ (.int .i64 o)).setCell ⟨w.heap.size + 1, 1, none⟩ (.int .i64 (k : Int))).setCell ⟨w.heap.size + 1, 2, none⟩ (.slice a2 l'.length c2)).cell? ⟨g, k * 10 + 7, none⟩ = some (.int .i64 o)) := by
      refine (World.cell?_of_block (w := w2) (a := ⟨g, k * 10 + 7, none⟩) ?_).trans ko2
      rw [Below.heap_setCell _ _ _ _ HGG.out, Below.heap_setCell _ _ _ _ HGG.out, Below.heap_setCell _ _ _ _ HGG.out]
    have HEND := hid (HEE.out (((w2.setCell ⟨w.heap.size + 1, 0, none⟩ (.int .i64 o)).setCell ⟨w.heap.size + 1, 1, none⟩ (.int .i64 (k : Int))).setCell ⟨w.heap.size + 1, 2, none⟩ (.slice a2 l'.length c2)) (.slice a2 l'.length c2) l' (put3_below HB2.out (Nat.le_succ _) (g := w.heap.size + 1) _ _ _) (by
      refine ⟨HCL.out.1, ?_⟩
      have hge := HGE.out
      rcases HCL.out.2 with hn | ⟨g', cap', cur, e1, hb', hg', rest⟩
      · exact .inl hn
      · refine .inr ⟨g', cap', cur, e1, ?_, ?_, rest⟩
        · have h9 : w1.heap.size ≤ g' := hb'
          omega
        · have h9 : w1.heap.size ≤ g' := hb'
          rw [Below.heap_setCell _ _ _ _ (by show g' ≠ w.heap.size + 1; omega), Below.heap_setCell _ _ _ _ (by show g' ≠ w.heap.size + 1; omega), Below.heap_setCell _ _ _ _ (by show g' ≠ w.heap.size + 1; omega)]
          exact hg') HAC.out)
    refine wpAnyH_ready (rs := [10]) (by kernel_rfl) (by simp) ?_
    refine AllReadyH.consW rfl (fun K hK => ?_) AllReadyH.nil
    go_simp
    refine hK.out _ _ HK3.out (fun hHeld => ?_)
    clear hK K
    refine wpAnyH_takeW (i := 11) (v := .nilIface) rfl (by kernel_rfl) (by kernel_rfl) (by kernel_rfl) (fun _ _ _ h => h) (by rfl) (fun W hC => by go_simp) hHeld ?_
    simp only [Act.put, List.setIfInBounds_toArray, List.set_cons_zero, List.set_cons_succ]
    refine wpAnyH_done (by kernel_rfl) ?_ _
    clear hHeld ko ko2 HEE HCL HAC HK3 HR2 HR1 d0 d1 d2 df
    go_wp2_with fail
    (try simp only [Exit.inBlock, Exit.then])
    refine bodyPost_ret (results_ctM rfl _ _ (w.heap.size + 1) 36 #[.int .i64 o, .int .i64 (k : Int), .slice a2 l'.length c2] (0, 0) _ rfl HP3.out Tryz.underlying36 rfl (by kernel_rfl)) rfl ?_
    exact HEND.out

end Go.Proofs.YtdpdmgmeieijaaaGreatDoor

namespace Go.Proofs.YtdpdmgmeieijaaaGreatDoor
open Go.RowKit Go.Maps

end Go.Proofs.YtdpdmgmeieijaaaGreatDoor

namespace Go.Proofs.YtdpdmgmeieijaaaGreatDoor
open Go.RowKit Go.Maps

/-- what a machine shows is told, and what was told stays -/
def Okk (p : Nat) (cs0 : List (Int × Int)) (s : RM) : Prop := s.err = 0 → Zer s.cs ∧ (∀ j, 0 ≤ finz s.cs (s.at' j) ∧ cvl s.cs (s.at' j) = s.is' j) ∧ (∀ u, 0 ≤ finz cs0 u → 0 ≤ finz s.cs u ∧ cvl s.cs u = cvl cs0 u) ∧ (∀ u, 0 ≤ finz s.cs u → 0 ≤ u ∧ u < p)
theorem upd_two (f g : Nat → Int) (k : Nat) (x y : Int) (j : Nat) : (updM f k x j = x ∧ updM g k y j = y) ∨ (updM f k x j = f j ∧ updM g k y j = g j) := by
  unfold updM
  split
  · exact .inl ⟨rfl, rfl⟩
  · exact .inr ⟨rfl, rfl⟩
theorem okk_look {p : Nat} {cs0 : List (Int × Int)} {s : RM} (h : Okk p cs0 s) (x : Int) : Okk p cs0 (s.look x).1 := by
  by_cases he : s.err = 0
  · obtain ⟨h1, h2, h3, h4⟩ := h he
    rw [look_eq he]
    by_cases hx : 0 ≤ finz s.cs x
    · rw [if_pos hx]
      intro _
      refine ⟨h1, fun j => ?_, h3, h4⟩
      show 0 ≤ finz s.cs (updM s.at' s.slot x j) ∧ cvl s.cs (updM s.at' s.slot x j) = updM s.is' s.slot (cvl s.cs x) j
      rcases upd_two s.at' s.is' s.slot x (cvl s.cs x) j with ⟨e1, e2⟩ | ⟨e1, e2⟩
      · rw [e1, e2]; exact ⟨hx, rfl⟩
      · rw [e1, e2]; exact h2 j
    · rw [if_neg hx]
      intro e
      exact absurd (show (10 : Int) = 0 from e) (by decide)
  · rw [look_err he]
    exact h
theorem okk_tell {p : Nat} {cs0 : List (Int × Int)} {s : RM} (h : Okk p cs0 s) (x y : Int) (hx : 0 ≤ x ∧ x < p) : Okk p cs0 (s.tell p x y) := by
  by_cases he : s.err = 0
  · obtain ⟨h1, h2, h3, h4⟩ := h he
    rw [tell_eq he]
    by_cases ht : (tel s.cs x (y % (p : Int))).1 = 0
    · rw [if_pos ht]
      intro _
      have hxx : 0 ≤ finz (tel s.cs x (y % (p : Int))).2 x := by rw [(tel_same ht).1]; exact tld_finz.2 (.inr rfl)
      refine ⟨h1.tel ht, fun j => ?_, fun u hu => ?_, fun u hu => ?_⟩
      · show 0 ≤ finz (tel s.cs x (y % (p : Int))).2 (updM s.at' s.slot x j) ∧ cvl (tel s.cs x (y % (p : Int))).2 (updM s.at' s.slot x j) = updM s.is' s.slot (y % (p : Int)) j
        rcases upd_two s.at' s.is' s.slot x (y % (p : Int)) j with ⟨e1, e2⟩ | ⟨e1, e2⟩
        · rw [e1, e2]; exact ⟨hxx, tel_is ht⟩
        · rw [e1, e2]
          have hk := tel_keep ht (h2 j).1
          exact ⟨hk.2, hk.1.trans (h2 j).2⟩
      · have hk := tel_keep ht (h3 u hu).1
        exact ⟨hk.2, hk.1.trans (h3 u hu).2⟩
      · have hu' : 0 ≤ finz (tel s.cs x (y % (p : Int))).2 u := hu
        rw [(tel_same ht).1] at hu'
        rcases tld_finz.1 hu' with h5 | h5
        · exact h4 u h5
        · rw [h5]; exact hx
    · rw [if_neg ht]
      intro e
      exact absurd (show (7 : Int) = 0 from e) (by decide)
  · rw [tell_err he]
    exact h
theorem okk_must {p : Nat} {cs0 : List (Int × Int)} {s : RM} (h : Okk p cs0 s) (b : Bool) : Okk p cs0 (s.must b) := by
  unfold RM.must
  split
  · intro e
    exact absurd (show (7 : Int) = 0 from e) (by decide)
  · exact h
theorem okk_rck {p : Nat} {cs0 : List (Int × Int)} {s : RM} (h : Okk p cs0 s) (op y : Int) : Okk p cs0 (s.rck op y) := by
  unfold RM.rck
  split
  · exact okk_must h _
  · exact h
theorem okk_step {p : Nat} {cs0 : List (Int × Int)} {s : RM} (hp : 3 ≤ p) (h : Okk p cs0 s) (hr : 0 ≤ s.ap ∧ s.ap < p) (op a b c : Int) : Okk p cs0 (s.step p op a b c).1 := by
  have e := fun x => emod_bounds x p hp
  unfold RM.step
  split
  · unfold RM.three
    exact okk_tell (okk_rck (okk_look (okk_look h _) _) _ _) _ _ (e _)
  · split
    · exact okk_tell h _ _ (e _)
    · split
      · exact okk_must (okk_look (okk_look h _) _) _
      · split
        · exact h
        · split
          · exact okk_look h _
          · split
            · exact okk_tell (okk_tell h _ _ hr) _ _ (e _)
            · split
              · exact okk_look (okk_look (okk_look h _) _) _
              · split
                · exact okk_tell h _ _ (e _)
                · split
                  · exact okk_tell (okk_look h _) _ _ (e _)
                  · split
                    · exact okk_look h _
                    · intro e
                      exact absurd (show (7 : Int) = 0 from e) (by decide)
/-- a step's three cells, as they are told -/
def Tld3 (cs : List (Int × Int)) (x : List Int) : Prop := ∀ j, j < 3 → 0 ≤ finz cs (x.getD (4 + j) 0) ∧ cvl cs (x.getD (4 + j) 0) = x.getD (7 + j) 0
theorem now_tld {p : Nat} {cs0 : List (Int × Int)} {s : RM} (h : Okk p cs0 s) (he : s.err = 0) : Tld3 s.cs s.now ∧ s.now.length = 10 := by
  refine ⟨fun j hj => ?_, rfl⟩
  have h2 := (h he).2.1
  have : j = 0 ∨ j = 1 ∨ j = 2 := by omega
  rcases this with rfl | rfl | rfl
  · exact h2 0
  · exact h2 1
  · exact h2 2
theorem okk_fresh {p : Nat} {cs : List (Int × Int)} (hz : Zer cs) (hb : ∀ u, 0 ≤ finz cs u → 0 ≤ u ∧ u < (p : Int)) (n : Rg) : Okk p cs (freshM cs n) := fun _ => ⟨hz, fun _ => hz, fun _ hu => ⟨hu, rfl⟩, hb⟩
theorem mgo_once (p : Nat) (L : List InsZ) (limit : Nat) (hp : 3 ≤ p) : ∀ (f : Nat) (k : Nat) (n : Rg) (cs1 : List (Int × Int)) (done l : List (List Int)) (cs : List (Int × Int)), mgo p L limit f (freshM cs1 n) done = .good l cs → Zer cs1 → (∀ u, 0 ≤ finz cs1 u → 0 ≤ u ∧ u < (p : Int)) → SOk p k 0 (freshM cs1 n) → RgB p n → (∀ x, x ∈ done → Tld3 cs1 x ∧ x.length = 10) →
    Zer cs ∧ (∀ u, 0 ≤ finz cs u → 0 ≤ u ∧ u < (p : Int)) ∧ ∀ x, x ∈ l → Tld3 cs x ∧ x.length = 10
  | 0, _, _, _, _, _, _, h, _, _, _, _, _ => by simp [mgo] at h
  | f + 1, k, n, cs1, done, l, cs, h, hz, hb, hs, hr, hd => by
    rw [mgo] at h
    split at h
    · cases h
    · split at h
      · cases h
      · split at h
        · cases h
        · rename_i her
          generalize hop : (insat L (freshM cs1 n).pc.toNat).op = op at h her
          generalize (insat L (freshM cs1 n).pc.toNat).a = a at h her
          generalize (insat L (freshM cs1 n).pc.toNat).b = b at h her
          generalize (insat L (freshM cs1 n).pc.toNat).c = c at h her
          have he0 : ((freshM cs1 n).step p op a b c).1.err = 0 := Decidable.byContradiction her
          have hk := okk_step hp (okk_fresh hz hb n) hr.2.2.1 op a b c
          have hso := step_ok hp hs hr op a b c
          have hnow := now_tld hk he0
          obtain ⟨g1, g2, g3, g4⟩ := hk he0
          have hall : ∀ x, x ∈ done ++ [((freshM cs1 n).step p op a b c).1.now] → Tld3 ((freshM cs1 n).step p op a b c).1.cs x ∧ x.length = 10 := fun x hx => by
            rcases List.mem_append.1 hx with hx | hx
            · obtain ⟨hd1, hd2⟩ := hd x hx
              exact ⟨fun j hj => ⟨(g3 _ (hd1 j hj).1).1, (g3 _ (hd1 j hj).1).2.trans (hd1 j hj).2⟩, hd2⟩
            · rw [List.mem_singleton] at hx
              rw [hx]
              exact hnow
          split at h
          · injection h with h1 h2
            rw [← h1, ← h2]
            exact ⟨g1, g4, hall⟩
          · exact mgo_once p L limit hp f (k + 2) _ _ _ l cs h g1 g4 ⟨hso.1.1, hso.1.2.1, fun _ => Nat.le_refl _⟩ hso.2 hall
theorem mwalk_once {p : Nat} {size : Int} {L : List InsZ} {limit : Nat} {l : List (List Int)} {cs : List (Int × Int)} (hp : 3 ≤ p) (h : mwalk p size L limit = .good l cs) :
    Zer cs ∧ (∀ u, 0 ≤ finz cs u → 0 ≤ u ∧ u < (p : Int)) ∧ ∀ x, x ∈ l → Tld3 cs x ∧ x.length = 10 := by
  refine mgo_once p L limit hp _ 1 _ _ _ l cs h zer_first (fun u hu => ?_) ⟨fun j hj => ?_, Nat.le_refl _, fun _ => Nat.le_refl _⟩ ⟨⟨Int.le_refl _, by show (0 : Int) < p; omega⟩, ⟨by show (0 : Int) ≤ 1; omega, by show (1 : Int) < p; omega⟩, emod_bounds _ p hp, ⟨Int.le_refl _, by show (0 : Int) < p; omega⟩⟩ (fun x hx => by cases hx)
  · have : u = 0 := by
      rcases finz_cases [(0, 0)] u with e | ⟨i, _, hi, he⟩
      · omega
      · have : i = 0 := by simpa using hi
        subst this
        simpa [cat] using he.symm
    subst this
    exact ⟨Int.le_refl _, by omega⟩
  · have : j = 0 := by simpa [freshM] using hj
    subst this
    show 0 ≤ (0 : Int) ∧ (0 : Int) < p
    omega

end Go.Proofs.YtdpdmgmeieijaaaGreatDoor

namespace Go.Proofs.YtdpdmgmeieijaaaGreatDoor
open Go.RowKit Go.Maps

/-- what is listed so far -/
def Pre6 (cs : List (Int × Int)) (low : Int) (pre : List (Int × Int)) : Prop := 0 ≤ low ∧ pre.Pairwise (fun a b => a.1 < b.1) ∧ ∀ x y, (x, y) ∈ pre ↔ (0 < x ∧ x ≤ low ∧ 0 ≤ finz cs x ∧ cvl cs x = y)
end Go.Proofs.YtdpdmgmeieijaaaGreatDoor

namespace Go.Proofs.YtdpdmgmeieijaaaGreatDoor
open Go.RowKit Go.Maps

end Go.Proofs.YtdpdmgmeieijaaaGreatDoor

namespace Go.Proofs.YtdpdmgmeieijaaaGreatDoor
open Go.RowKit Go.Maps

theorem prime97M : Num.Prime 97 := by
  refine ⟨by decide, fun d hd => ?_⟩
  have hle : d ≤ 97 := Nat.le_of_dvd (by decide) hd
  have key : ∀ e, e ≤ 97 → 97 % e = 0 → e = 1 ∨ e = 97 := by decide
  exact key d hle (Nat.mod_eq_zero_of_dvd hd)
/-- what Run gives, in two -/
theorem RuR.cases {p : Nat} {size : Int} {L : List InsZ} {limit : Int} {w w' : World} {e : Ending} (h : RuR p size L limit w e w') :
    (∃ z, z ≠ 0 ∧ e = .returned (.tuple #[.agg #[.int .i64 0, .int .i64 0, .slice none 0 0], .iface 68 (.int .i64 z)]) ∧ ((fz6 (p : Int) size L.length limit ≠ 0 ∧ z = fz6 (p : Int) size L.length limit) ∨ (fz6 (p : Int) size L.length limit = 0 ∧ mwalk p size L limit.toNat = .bad z))) ∨
    (fz6 (p : Int) size L.length limit = 0 ∧ ∃ l cs a c l', mwalk p size L limit.toNat = .good l cs ∧ 0 < l.length ∧ e = .returned (.tuple #[.agg #[.int .i64 (outv l), .int .i64 ((l.length - 1 : Nat) : Int), .slice a l'.length c], .nilIface]) ∧ CelR w.heap.size w' (.slice a l'.length c) l' ∧ AscC cs l') := by
  obtain ⟨_, h2⟩ := h
  by_cases hz : fz6 (p : Int) size L.length limit ≠ 0
  · rw [if_pos hz, errV_nz hz] at h2
    exact .inl ⟨_, hz, h2, .inl ⟨hz, rfl⟩⟩
  · rw [if_neg hz] at h2
    have hz0 : fz6 (p : Int) size L.length limit = 0 := Decidable.byContradiction hz
    cases hX : mwalk p size L limit.toNat with
    | bad z =>
      rw [hX] at h2
      have hnz := mgo_bad _ _ _ _ _ _ _ hX
      have h2' : e = _ := h2
      rw [errV_nz hnz] at h2'
      exact .inl ⟨z, hnz, h2', .inr ⟨hz0, rfl⟩⟩
    | good l cs =>
      rw [hX] at h2
      obtain ⟨v, l', h5, h6, h7⟩ := h2
      obtain ⟨a, c, rfl⟩ := h6.form
      exact .inr ⟨hz0, l, cs, a, c, l', rfl, (mgo_len _ _ _ _ _ _ _ _ hX).1, h5, h6, h7⟩
end Go.Proofs.YtdpdmgmeieijaaaGreatDoor
