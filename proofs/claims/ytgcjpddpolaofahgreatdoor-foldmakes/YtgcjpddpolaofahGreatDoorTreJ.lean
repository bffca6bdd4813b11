/- attestsame.Opened. -/
import Derived.Test.YtgcjpddpolaofahGreatDoorTres
import Derived.StillTailTactics
namespace Go.Proofs.YtgcjpddpolaofahGreatDoor
open Go.RowKit

set_option maxRecDepth 100000 in
set_option maxHeartbeats 4000000 in
theorem opened_any (cp cr cn : Nat) (ap ar an' : Option Addr) (ps : List Int) (rows nodes : List (List Int)) (w : World) (hps : ps.length ≤ 17592186044416) (hnr : rows.length ≤ 5864062014805) (hnn : nodes.length ≤ 5864062014805) (hfr : ∀ k, k < rows.length → (rat rows k).length ≤ 17592186044416) (hfn : ∀ k, k < nodes.length → (rat nodes k).length ≤ 17592186044416)
    (hlp : Lst w.heap.size w ap cp ps) (hlr : LstR w.heap.size w ar cr rows) (hln : LstR w.heap.size w an' cn nodes) :
    Calls Tryz.prog 46 #[.agg #[.slice ap ps.length cp, .slice ar rows.length cr, .slice an' nodes.length cn]] w fun e w' =>
      ∃ vp vr vn, e = .returned (.agg #[vp, vr, vn]) ∧ SlR w' ps vp ∧ OwnR w.heap.size w' vr rows ∧ OwnR w.heap.size w' vn nodes ∧ Below w.heap.size w w' := by
  have HCR : Hid (∀ W, Below w.heap.size w W → Calls Tryz.prog 45 #[.slice ar rows.length cr] W fun e w' => ∃ v, e = .returned v ∧ OwnR W.heap.size w' v rows ∧ Below W.heap.size W w') := fun W h => copied_any cr ar rows W hnr hfr ((hlr.below h).mono h.size)
  have HCN : Hid (∀ W, Below w.heap.size w W → Calls Tryz.prog 45 #[.slice an' nodes.length cn] W fun e w' => ∃ v, e = .returned v ∧ OwnR W.heap.size w' v nodes ∧ Below W.heap.size W w') := fun W h => copied_any cn an' nodes W hnn hfn ((hln.below h).mono h.size)
  have HLP := hid hlp
  clear hlp hlr hln hfr hfn
  go_enter Tryz.func46, Tryz.ntmps46
  have HP0 := hid (tri_new w 91 (.slice ap ps.length cp) (.slice ar rows.length cr) (.slice an' nodes.length cn))
  have hs0 : (w.alloc (.cells #[.slice ap ps.length cp, .slice ar rows.length cr, .slice an' nodes.length cn] 91)).heap.size = w.heap.size + 1 := by simp
  have HR0 := hid (tri_new (w.alloc (.cells #[.slice ap ps.length cp, .slice ar rows.length cr, .slice an' nodes.length cn] 91)) 91 (.slice none 0 0) (.slice none 0 0) (.slice none 0 0))
  rw [hs0] at HR0
  have HPP := hid (HP0.out.alloc (.cells #[.slice none 0 0, .slice none 0 0, .slice none 0 0] 91))
  have HB0 : Hid (Below w.heap.size w ((w.alloc (.cells #[.slice ap ps.length cp, .slice ar rows.length cr, .slice an' nodes.length cn] 91)).alloc (.cells #[.slice none 0 0, .slice none 0 0, .slice none 0 0] 91))) := ((Below.refl _ _).alloc (Nat.le_refl _) _).alloc (by simp) _
  have HSZ : Hid (((w.alloc (.cells #[.slice ap ps.length cp, .slice ar rows.length cr, .slice an' nodes.length cn] 91)).alloc (.cells #[.slice none 0 0, .slice none 0 0, .slice none 0 0] 91)).heap.size = w.heap.size + 1 + 1) := by unfold Hid; simp
  have HL0 := hid ((HLP.out.below HB0.out).mono HB0.out.size)
  clear hs0 HP0 HLP
  go_wp2_with (at_builtin; refine wpList_copyS ((w.alloc (.cells #[.slice ap ps.length cp, .slice ar rows.length cr, .slice an' nodes.length cn] 91)).alloc (.cells #[.slice none 0 0, .slice none 0 0, .slice none 0 0] 91)) rfl _ _ rfl (by show Value.slice (some ⟨w.heap.size + 1 + 1, 0, none⟩) 0 0 = _; rw [HSZ.out]) ap cp ps rfl hps HL0.out ?_)
  intro vp w1 hs1 hb1
  clear HL0
  generalize (w.alloc (.cells #[.slice ap ps.length cp, .slice ar rows.length cr, .slice an' nodes.length cn] 91)).alloc (.cells #[.slice none 0 0, .slice none 0 0, .slice none 0 0] 91) = W0 at *
  have hP1 := HPP.out.of_block (hb1.block _ (by omega))
  have hR1 := HR0.out.of_block (hb1.block _ (by omega))
  have HB1 : Hid (Below w.heap.size w w1) := HB0.out.trans (hb1.mono (by omega))
  obtain ⟨a2, c2, hv2, _⟩ := hs1.lst
  subst hv2
  have HS1 := hid hs1
  have HR1 := hid hR1
  have HP1 := hid hP1
  have x1 := hP1.cell (i := 1) (by omega)
  simp only [tri] at x1
  clear hs1 hb1 hP1 hR1 HPP HR0 HSZ HB0
  go_wp2_with fail
  refine (HCR.out _ HB1.out).mono ?_
  rintro e w2 ⟨vr, rfl, ho2, hb2⟩
  have HB2 : Hid (Below w.heap.size w w2) := HB1.out.trans (hb2.mono HB1.out.size)
  have HS2 := hid (HS1.out.keep hb2)
  have HO2 := hid (ho2.mono HB1.out.size)
  have HR2 := hid (HR1.out.of_block (hb2.block _ HR1.out.lt))
  have hP2 := HP1.out.of_block (hb2.block _ HP1.out.lt)
  have x2 := hP2.cell (i := 2) (by omega)
  simp only [tri] at x2
  obtain ⟨a3, c3, hv3, _⟩ := ho2.lst
  subst hv3
  clear ho2 hb2 hP2 x1 HS1 HB1 HR1 HP1 HCR
  go_wp2_with fail
  refine (HCN.out _ HB2.out).mono ?_
  rintro e w3 ⟨vn, rfl, ho3, hb3⟩
  obtain ⟨a4, c4, hv4, _⟩ := ho3.lst
  subst hv4
  have HB3 : Hid (Below w.heap.size w w3) := HB2.out.trans (hb3.mono HB2.out.size)
  have HX : Hid (SlR w3 ps (.slice a2 ps.length c2) ∧ OwnR w.heap.size w3 (.slice a3 rows.length c3) rows ∧ OwnR w.heap.size w3 (.slice a4 nodes.length c4) nodes) := ⟨HS2.out.keep hb3, HO2.out.keep hb3, ho3.mono HB2.out.size⟩
  have HRR : Hid (w3.heap[w.heap.size + 1]? = some (.cells #[.slice none 0 0, .slice none 0 0, .slice none 0 0] 91 (0, 0))) := tri_arr (HR2.out.of_block (hb3.block _ HR2.out.lt))
  clear ho3 hb3 x2 HS2 HB2 HR2 HO2 HCN
  go_wp2_with (refine wpList_store_row rfl 91 _ _ rfl (w.heap.size + 1) #[.slice a2 ps.length c2, .slice a3 rows.length c3, .slice a4 nodes.length c4] rfl rfl _ _ HRR.out (by kernel_rfl) rfl (by simp [Value.oneCell']) ?_)
  refine bodyPost_ret (results_cell_row rfl _ _ (w.heap.size + 1) 91 #[.slice a2 ps.length c2, .slice a3 rows.length c3, .slice a4 nodes.length c4] (0, 0) _ rfl (setRow_heap _ _ _ _ _ _ HRR.out) Tryz.underlying91 rfl (by kernel_rfl)) rfl ?_
  have hRw2 : ∃ c f, w3.heap[w.heap.size + 1]? = some (.cells c 91 f) := ⟨_, _, HRR.out⟩
  exact ⟨_, _, _, rfl, HX.out.1.onlyO hRw2 (by simp) (fun b hb => setRow_other _ _ _ _ hb), HX.out.2.1.onlyO hRw2 (by simp) (fun b hb => setRow_other _ _ _ _ hb), HX.out.2.2.onlyO hRw2 (by simp) (fun b hb => setRow_other _ _ _ _ hb), below_setRow HB3.out (by omega) _⟩

end Go.Proofs.YtgcjpddpolaofahGreatDoor
