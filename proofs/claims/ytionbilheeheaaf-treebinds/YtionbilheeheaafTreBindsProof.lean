/- TreeBinds: who exchanges a row knows two lists with one digest: whatever p, root, n and two Openings there are, where both are taken and unlike rows stand at a common place, tree.Collide tells two unlike lists with one digest, and else none. No condition. -/
import Derived.Test.YtionbilheeheaafLawTBinds
import Derived.Test.YtionbilheeheaafEnds
import Derived.Deep.DeepHandedRow
import Derived.Test.YtionbilheeheaafOpenR
namespace Go.Proofs.Ytionbilheeheaaf
open Go.ChangeShapes Go.WideShapes Go.ChangeAt Go.RowKit

set_option maxRecDepth 100000 in
theorem treeBinds_lifted (os : Os) (started : os.Started) (H : Type) (enc : TypeId × Value → H) (F : Stop.Interp) :
    ReturnsInHanded {} Try.checked os 4 .any ((OpenSpec.ofChange Rows.treeBindsSpec).preRow enc Try.prog Try.f4 Rows.treeBindsRow.domain false Rows.treeBindsRow.laid) (((OpenSpec.ofChange Rows.treeBindsSpec).at F).post enc Try.prog Try.f4 false true false false) := by
  have hx : ∃ places, DataW.whole enc Try.prog ((World.holding Try.prog os ⟨#[], #[], []⟩).forCall (fun _ _ => 0) ⟨#[], #[.int .i64 0, .slice none 0 0, .int .i64 0, .agg #[.slice none 0 0, .slice none 0 0, .slice none 0 0], .agg #[.slice none 0 0, .slice none 0 0, .slice none 0 0]], []⟩).memory Try.f4.params.toList Rows.treeBindsSpec.vars false (#[.int .i64 0, .slice none 0 0, .int .i64 0, .agg #[.slice none 0 0, .slice none 0 0, .slice none 0 0], .agg #[.slice none 0 0, .slice none 0 0, .slice none 0 0]] : Array Value).toList 8 = some ([.lit (.int .i64 0), .nil, .lit (.int .i64 0), .agg [.nil, .nil, .nil], .agg [.nil, .nil, .nil]], [], places) := ⟨[], by kernel_rfl⟩
  obtain ⟨places, hx⟩ := hx
  refine returnsInHanded_of_row (C := Try.checked) (s := (OpenSpec.ofChange Rows.treeBindsSpec)) own started (by kernel_rfl) Try.func4
    (witness_row_at (enc := enc) (C := Try.checked) false (World.holding Try.prog os ⟨#[], #[], []⟩) #[.int .i64 0, .slice none 0 0, .int .i64 0, .agg #[.slice none 0 0, .slice none 0 0, .slice none 0 0], .agg #[.slice none 0 0, .slice none 0 0, .slice none 0 0]] rfl (by kernel_rfl) (by kernel_rfl) (by kernel_rfl)
      (OpenSpec.preRow_of_cond 8 hx (by kernel_rfl) (fun k hk => by cases hk) (by kernel_rfl) (laidMetH_nil _ _))) ?_
  intro W base args ds gs before hval0 hW _ _ hsz _ _ _
  have hval : ∀ (j : Nat) t v, Try.f4.params[j]? = some t → args[j]? = some v → Value.okWide Try.prog W .any base t v := hval0
  have hW' := hW
  obtain ⟨p, q, hA0, hV0, rfl, hfz, hnd⟩ := hW
  have hA : DataW.TrodAll enc Try.prog W 0 (fun _ => true) true Try.f4.params.toList args.toList ds p := hA0
  have hV : DataW.TrodVars enc Try.prog W (fun _ => true) [] gs q := hV0
  rw [Try.params4] at hA hval
  obtain ⟨v0, vs0, d0, ds0, p0, s0, hargs, rfl, rfl, h0, hs0⟩ := trodAll_cons hA
  obtain ⟨v1, vs1, d1, ds1, p1, s1, rfl, rfl, rfl, h1, hs1⟩ := trodAll_cons hs0
  obtain ⟨v2, vs2, d2, ds2, p2, s2, rfl, rfl, rfl, h2, hs2⟩ := trodAll_cons hs1
  obtain ⟨v3, vs3, d3, ds3, p3, s3, rfl, rfl, rfl, h3, hs3⟩ := trodAll_cons hs2
  obtain ⟨v4, vs4, d4, ds4, p4, s4, rfl, rfl, rfl, h4, hs4⟩ := trodAll_cons hs3
  obtain ⟨rfl, rfl, rfl⟩ := trodAll_nil hs4
  obtain rfl : args = #[v0, v1, v2, v3, v4] := arr_of_list hargs
  obtain ⟨rfl, rfl⟩ : gs = [] ∧ q = [] := by
    cases gs with
    | nil => exact ⟨rfl, hV⟩
    | cons g r => exact absurd hV (by intro h; cases h)
  obtain ⟨a0, rfl, rfl, rfl, w0⟩ := open_int Try.underlying3 (hval 0 3 v0 rfl rfl) h0
  obtain ⟨a1, len1, cap1, rfl⟩ := okWide_slice Try.underlying23 (hval 1 23 v1 rfl rfl)
  have k1 := h1
  have lt1 : ∀ x ∈ p1, x.block < W.heap.size := by obtain ⟨m, hm⟩ := k1; exact DataW.trod_lt m _ _ _ hm
  obtain ⟨fuel1, hf1⟩ := h1
  obtain ⟨z1, rfl, hl1, hb1, hd1⟩ := open_list hf1
  have hr1 := reach_list (j := 1) hsz (by kernel_rfl) rfl hd1
  obtain ⟨a2, rfl, rfl, rfl, w2⟩ := open_int Try.underlying3 (hval 2 3 v2 rfl rfl) h2
  have k3 := h3
  have lt3 : ∀ x ∈ p3, x.block < W.heap.size := by obtain ⟨m, hm⟩ := k3; exact DataW.trod_lt m _ _ _ hm
  obtain ⟨ap3, ar3, an3, cp3, cr3, cn3, ps3, rows3, nodes3, rfl, lp3, lr3, ln3, fp3, fr3, fn3, hd3⟩ := open_opening (hval 3 32 v3 rfl rfl) h3
  have hr3 := reach_openD (reach_each (j := 3) hsz (by kernel_rfl) rfl) hd3
  have k4 := h4
  have lt4 : ∀ x ∈ p4, x.block < W.heap.size := by obtain ⟨m, hm⟩ := k4; exact DataW.trod_lt m _ _ _ hm
  obtain ⟨ap4, ar4, an4, cp4, cr4, cn4, ps4, rows4, nodes4, rfl, lp4, lr4, ln4, fp4, fr4, fn4, hd4⟩ := open_opening (hval 4 32 v4 rfl rfl) h4
  have hr4 := reach_openD (reach_each (j := 4) hsz (by kernel_rfl) rfl) hd4
  refine (tbinds_walk a0 a1 cap1 z1 a2 ap3 ar3 an3 cp3 cr3 cn3 ps3 rows3 nodes3 ap4 ar4 an4 cp4 cr4 cn4 ps4 rows4 nodes4 W (wf_bounds w0).1 (wf_bounds w0).2 (wf_bounds w2).1 (wf_bounds w2).2 hb1 hl1 hr3 lp3 lr3 ln3 fp3 (fitsR_of fr3 hr3.2.1.2) (fitsR_of fn3 hr3.2.2.2) hr4 lp4 lr4 ln4 fp4 (fitsR_of fr4 hr4.2.1.2) (fitsR_of fn4 hr4.2.2.2)).mono fun e W' ⟨he, hb⟩ => ?_
  subst he
  exact ⟨_, rfl, _, _, _, [], _, [], hW', trodAll_mk1 (shut_bool Try.underlying4 true), (trodAll_cons_mk (shut_int Try.underlying3 w0) (trodAll_cons_mk (Below.trod laidOut (by kernel_rfl) (of_decide_eq_true (by kernel_rfl)) k1 hb lt1) (trodAll_cons_mk (shut_int Try.underlying3 w2) (trodAll_cons_mk (Below.trod laidOut (by kernel_rfl) (of_decide_eq_true (by kernel_rfl)) k3 hb lt3) (trodAll_cons_mk (Below.trod laidOut (by kernel_rfl) (of_decide_eq_true (by kernel_rfl)) k4 hb lt4) trodAll_mk0))))), rfl, hb.frame _, fun h => by cases h⟩

theorem treeBinds_row : Rows.TreeBindsSaid :=
  OpenClaim.holds_of_cond 4 Try.f4 rfl rfl rfl rfl rfl rfl rfl ⟨rfl, rfl, rfl, rfl, rfl⟩ rfl rfl rfl rfl rfl (by kernel_rfl) Try.func4 (by kernel_rfl)
    (of_decide_eq_true (by kernel_rfl)) (by unfold Func.isWrapper; rw [if_neg (of_decide_eq_false (by kernel_rfl))]; exact ⟨rfl, rfl⟩)
    (fun os started H enc _ F => by rw [OpenClaim.pre_eq_preRow]; exact treeBinds_lifted os started H enc F)

#print axioms treeBinds_row
end Go.Proofs.Ytionbilheeheaaf
