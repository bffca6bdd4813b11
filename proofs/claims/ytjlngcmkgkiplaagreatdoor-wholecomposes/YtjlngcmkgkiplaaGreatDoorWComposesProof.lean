/- WholeComposes: For every input the law answers true: what all rules come to, over any rows and at all points, is what the document says. Package errors own variable errorType reads as its text lays it (tied). -/
import Derived.Test.YtjlngcmkgkiplaaGreatDoorWcBH
import Derived.Test.YtjlngcmkgkiplaaGreatDoorEnds
import Derived.Test.YtjlngcmkgkiplaaGreatDoorTie
import Derived.Test.YtjlngcmkgkiplaaGreatDoorCards
import Derived.SevenTiedAt
import Derived.Deep.DeepHandedRow
import Derived.Test.YtjlngcmkgkiplaaGreatDoorWcBI
import Derived.Test.YtjlngcmkgkiplaaGreatDoorEndsD
set_option maxRecDepth 1000000
set_option maxHeartbeats 8000000
namespace Go.Proofs.YtjlngcmkgkiplaaGreatDoor
open Go.ChangeShapes Go.WideShapes Go.ChangeAt Go.RowKit
open Go.ChangeMaps (open_string shut_string)
theorem wholeComposes_lifted (os : Os) (started : os.Started) (H : Type) (enc : TypeId × Value -> H) (F : Stop.Interp) :
  ReturnsInHanded {} Tryz.checked os 3 .any ((OpenSpec.ofChange Rows.wholeComposesSpec).preRow enc Tryz.prog Tryz.f3 Rows.wholeComposesRow.domain false Rows.wholeComposesRow.laid) (((OpenSpec.ofChange Rows.wholeComposesSpec).at F).post enc Tryz.prog Tryz.f3 false true false false) := by
 have hx : ∃ places, DataW.whole enc Tryz.prog ((laidWorld os).forCall (fun _ _ => 0) ⟨#[], #[.int .i64 0, .agg #[.int .i64 0, .slice none 0 0], .int .i64 0, .slice none 0 0, .slice none 0 0, .int .i64 0, .int .i64 0, .int .i64 0], []⟩).memory Tryz.f3.params.toList Rows.wholeComposesSpec.vars false (#[.int .i64 0, .agg #[.int .i64 0, .slice none 0 0], .int .i64 0, .slice none 0 0, .slice none 0 0, .int .i64 0, .int .i64 0, .int .i64 0] : Array Value).toList 8 = some ([.lit (.int .i64 0), .agg [.lit (.int .i64 0), .nil], .lit (.int .i64 0), .nil, .nil, .lit (.int .i64 0), .lit (.int .i64 0), .lit (.int .i64 0)], [], places) := ⟨[], by kernel_rfl⟩
 obtain ⟨places, hx⟩ := hx
 refine returnsInHanded_of_row (C := Tryz.checked) (s := (OpenSpec.ofChange Rows.wholeComposesSpec)) own started (by kernel_rfl) Tryz.func3
  (witness_row_at (enc := enc) (C := Tryz.checked) false (laidWorld os) #[.int .i64 0, .agg #[.int .i64 0, .slice none 0 0], .int .i64 0, .slice none 0 0, .slice none 0 0, .int .i64 0, .int .i64 0, .int .i64 0] rfl (by kernel_rfl) (by kernel_rfl) (by kernel_rfl)
   (OpenSpec.preRow_of_cond 8 hx (by kernel_rfl) (fun k hk => by cases hk) (by kernel_rfl) (laidMetH_of_parts (laidMet_nil _ _) (by kernel_rfl)))) ?_
 intro W base args ds gs before hval0 hW _ _ hsz hL _ _
 have hval : ∀ (j : Nat) t v, Tryz.f3.params[j]? = some t -> args[j]? = some v -> Value.okWide Tryz.prog W .any base t v := hval0
 have hW' := hW
 obtain ⟨p, q, hA0, hV0, rfl, hfz, hnd⟩ := hW
 have hA : DataW.TrodAll enc Tryz.prog W 0 (fun _ => true) true Tryz.f3.params.toList args.toList ds p := hA0
 have hV : DataW.TrodVars enc Tryz.prog W (fun _ => true) [] gs q := hV0
 rw [Tryz.params3] at hA hval
 obtain ⟨v0, vs0, d0, ds0, p0, s0, hargs, rfl, rfl, h0, hs0⟩ := trodAll_cons hA
 obtain ⟨v1, vs1, d1, ds1, p1, s1, rfl, rfl, rfl, h1, hs1⟩ := trodAll_cons hs0
 obtain ⟨v2, vs2, d2, ds2, p2, s2, rfl, rfl, rfl, h2, hs2⟩ := trodAll_cons hs1
 obtain ⟨v3, vs3, d3, ds3, p3, s3, rfl, rfl, rfl, h3, hs3⟩ := trodAll_cons hs2
 obtain ⟨v4, vs4, d4, ds4, p4, s4, rfl, rfl, rfl, h4, hs4⟩ := trodAll_cons hs3
 obtain ⟨v5, vs5, d5, ds5, p5, s5, rfl, rfl, rfl, h5, hs5⟩ := trodAll_cons hs4
 obtain ⟨v6, vs6, d6, ds6, p6, s6, rfl, rfl, rfl, h6, hs6⟩ := trodAll_cons hs5
 obtain ⟨v7, vs7, d7, ds7, p7, s7, rfl, rfl, rfl, h7, hs7⟩ := trodAll_cons hs6
 obtain ⟨rfl, rfl, rfl⟩ := trodAll_nil hs7
 obtain rfl : args = #[v0, v1, v2, v3, v4, v5, v6, v7] := arr_of_list hargs
 have hg := handle_of_laid hL
 obtain ⟨rfl, rfl⟩ : gs = [] /\ q = [] := by
  cases gs with
  | nil => exact ⟨rfl, hV⟩
  | cons g r => exact absurd hV (by intro h; cases h)
 obtain ⟨a0, rfl, rfl, rfl, w0⟩ := open_int Tryz.underlying3 (hval 0 3 v0 rfl rfl) h0
 have k1 := h1
 have lt1 : ∀ x ∈ p1, x.block < W.heap.size := by obtain ⟨m, hm⟩ := k1; exact DataW.trod_lt m _ _ _ hm
 obtain ⟨sz1, aL1, cL1, L1, rfl, zb1, hL1, hI1, hd1⟩ := open_code (hval 1 24 v1 rfl rfl) h1
 have hr1 := reach_codeD (reach_each (j := 1) hsz (by kernel_rfl) rfl) hd1
 obtain ⟨a2, rfl, rfl, rfl, w2⟩ := open_int Tryz.underlying3 (hval 2 3 v2 rfl rfl) h2
 obtain ⟨a3, len3, cap3, rfl⟩ := okWide_slice Tryz.underlying25 (hval 3 25 v3 rfl rfl)
 have k3 := h3
 have lt3 : ∀ x ∈ p3, x.block < W.heap.size := by obtain ⟨m, hm⟩ := k3; exact DataW.trod_lt m _ _ _ hm
 obtain ⟨fuel3, hf3⟩ := h3
 obtain ⟨z3, rfl, hl3, hb3, hd3⟩ := open_rows hf3
 have hr3 := reach_rowsD (reach_each (j := 3) hsz (by kernel_rfl) rfl) hd3
 obtain ⟨a4, len4, cap4, rfl⟩ := okWide_slice Tryz.underlying26 (hval 4 26 v4 rfl rfl)
 have k4 := h4
 have lt4 : ∀ x ∈ p4, x.block < W.heap.size := by obtain ⟨m, hm⟩ := k4; exact DataW.trod_lt m _ _ _ hm
 obtain ⟨fuel4, hf4⟩ := h4
 obtain ⟨z4, rfl, hl4, hb4, hd4⟩ := open_list hf4
 have hr4 := reach_list (j := 4) hsz (by kernel_rfl) rfl hd4
 obtain ⟨a5, rfl, rfl, rfl, w5⟩ := open_int Tryz.underlying3 (hval 5 3 v5 rfl rfl) h5
 obtain ⟨a6, rfl, rfl, rfl, w6⟩ := open_int Tryz.underlying3 (hval 6 3 v6 rfl rfl) h6
 obtain ⟨a7, rfl, rfl, rfl, w7⟩ := open_int Tryz.underlying3 (hval 7 3 v7 rfl rfl) h7
 refine (wcomposes_walk a0 cL1 cap3 cap4 sz1 a2 a5 a6 a7 aL1 a3 a4 L1 z3 z4 W hg (wf_bounds w0).1 (wf_bounds w0).2 hL1 hI1 (Nat.le_trans (reach_codeI (reach_each (j := 1) hsz (by kernel_rfl) rfl) hd1) (by decide)) zb1 (wf_bounds w2) (fitsR_of hb3 hr3.2) (Nat.le_trans hr3.1 (by decide)) hb4 hl3 hl4.row (wf_bounds w5) (wf_bounds w6) (wf_bounds w7)).mono fun e W' ⟨he, hb⟩ => ?_
 subst he
 exact ⟨_, rfl, _, _, _, [], _, [], hW', trodAll_mk1 (shut_bool Tryz.underlying4 true), (trodAll_cons_mk (shut_int Tryz.underlying3 w0) (trodAll_cons_mk (Below.trod laidOut (by kernel_rfl) (of_decide_eq_true (by kernel_rfl)) k1 hb lt1) (trodAll_cons_mk (shut_int Tryz.underlying3 w2) (trodAll_cons_mk (Below.trod laidOut (by kernel_rfl) (of_decide_eq_true (by kernel_rfl)) k3 hb lt3) (trodAll_cons_mk (Below.trod laidOut (by kernel_rfl) (of_decide_eq_true (by kernel_rfl)) k4 hb lt4) (trodAll_cons_mk (shut_int Tryz.underlying3 w5) (trodAll_cons_mk (shut_int Tryz.underlying3 w6) (trodAll_cons_mk (shut_int Tryz.underlying3 w7) trodAll_mk0)))))))), rfl, hb.frame _, fun h => by cases h⟩
theorem wholeComposes_row : Rows.WholeComposesSaid :=
 OpenClaim.holds_of_cond 3 Tryz.f3 rfl rfl rfl rfl rfl rfl rfl ⟨rfl, rfl, rfl, rfl, rfl⟩ rfl rfl rfl rfl rfl (by kernel_rfl) Tryz.func3 (by kernel_rfl)
  (of_decide_eq_true (by kernel_rfl)) (by unfold Func.isWrapper; rw [if_neg (of_decide_eq_false (by kernel_rfl))]; exact ⟨rfl, rfl⟩)
  (fun os started H enc _ F => by rw [OpenClaim.pre_eq_preRow]; exact wholeComposes_lifted os started H enc F)
theorem wholeComposes_card : Rows.WholeComposesCardSaid :=
 Claim7.holds_tied_plain_at .later [] [.handle] true (true, "652f7530149e1a6b4111ba080b10773a63b1e057524848fa1e0686a2bf7273a7") true
  wholeComposes_row (fun _ h => by cases h) (by kernel_rfl) (fun _ h => by cases h) wholeComposes_row_tie rfl ⟨rfl, rfl⟩ (by kernel_rfl) rfl
  (fun f fn hf hfn => by
   obtain rfl : f = 3 := Option.some.inj ((show Tryz.prog.funcNamed Rows.wholeComposesRow.func = some 3 by kernel_rfl).symm.trans hf) |>.symm
   obtain rfl : fn = Tryz.f3 := (Option.some.inj (Tryz.func3.symm.trans hfn)).symm
   exact ⟨by kernel_rfl, fun j t ht => by
    rw [Tryz.params3] at ht
    have h3 : t = 3 ∨ t = 26 ∨ t = 25 ∨ t = 24 := by
     match j, ht with
     | 0, ht => left; simpa using ht.symm
     | 1, ht => right; right; right; simpa using ht.symm
     | 2, ht => left; simpa using ht.symm
     | 3, ht => right; right; left; simpa using ht.symm
     | 4, ht => right; left; simpa using ht.symm
     | 5, ht => left; simpa using ht.symm
     | 6, ht => left; simpa using ht.symm
     | 7, ht => left; simpa using ht.symm
     | n + 8, ht => simp at ht
    rcases h3 with rfl | rfl | rfl | rfl
    ·exact (show Tryz.prog.wantsStandIn 3 = false by kernel_rfl)
    ·exact (show Tryz.prog.wantsStandIn 26 = false by kernel_rfl)
    ·exact (show Tryz.prog.wantsStandIn 25 = false by kernel_rfl)
    ·exact (show Tryz.prog.wantsStandIn 24 = false by kernel_rfl)⟩)
  (by kernel_rfl)
#print axioms wholeComposes_card
end Go.Proofs.YtjlngcmkgkiplaaGreatDoor
