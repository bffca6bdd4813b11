/- PledgeBinds: For every input the law answers true: of two pledges with one root that Check takes at one point and that show all columns, either they say the same, or Collide tells two lists with one digest. Package errors own variable errorType reads as its text lays it (tied). -/
import Derived.Test.YtmmlphdekeflfaaGreatDoorLawEBinds
import Derived.Test.YtmmlphdekeflfaaGreatDoorEnds
import Derived.Test.YtmmlphdekeflfaaGreatDoorTie
import Derived.Test.YtmmlphdekeflfaaGreatDoorCards
import Derived.SevenTiedAt
import Derived.Deep.DeepHandedRow
import Derived.Test.YtmmlphdekeflfaaGreatDoorPbBB
import Derived.Test.YtmmlphdekeflfaaGreatDoorEndsD
namespace Go.Proofs.YtmmlphdekeflfaaGreatDoor
open Go.ChangeShapes Go.WideShapes Go.ChangeAt Go.RowKit
open Go.ChangeMaps (open_string shut_string)

set_option maxRecDepth 100000 in
theorem pledgeBinds_lifted (os : Os) (started : os.Started) (H : Type) (enc : TypeId × Value → H) (F : Stop.Interp) :
    ReturnsInHanded {} Tryz.checked os 6 .any ((OpenSpec.ofChange Rows.pledgeBindsSpec).preRow enc Tryz.prog Tryz.f6 Rows.pledgeBindsRow.domain false Rows.pledgeBindsRow.laid) (((OpenSpec.ofChange Rows.pledgeBindsSpec).at F).post enc Tryz.prog Tryz.f6 false true false false) := by
  have hx : ∃ places, DataW.whole enc Tryz.prog ((laidWorld os).forCall (fun _ _ => 0) ⟨#[], #[.int .i64 0, .int .i64 0, .int .i64 0, .slice none 0 0, .slice none 0 0, .int .i64 0, .slice none 0 0, .int .i64 0, .agg #[.slice none 0 0, .slice none 0 0, .slice none 0 0, .slice none 0 0, .slice none 0 0, .slice none 0 0], .agg #[.slice none 0 0, .slice none 0 0, .slice none 0 0, .slice none 0 0, .slice none 0 0, .slice none 0 0]], []⟩).memory Tryz.f6.params.toList Rows.pledgeBindsSpec.vars false (#[.int .i64 0, .int .i64 0, .int .i64 0, .slice none 0 0, .slice none 0 0, .int .i64 0, .slice none 0 0, .int .i64 0, .agg #[.slice none 0 0, .slice none 0 0, .slice none 0 0, .slice none 0 0, .slice none 0 0, .slice none 0 0], .agg #[.slice none 0 0, .slice none 0 0, .slice none 0 0, .slice none 0 0, .slice none 0 0, .slice none 0 0]] : Array Value).toList 8 = some ([.lit (.int .i64 0), .lit (.int .i64 0), .lit (.int .i64 0), .nil, .nil, .lit (.int .i64 0), .nil, .lit (.int .i64 0), .agg [.nil, .nil, .nil, .agg [.nil, .nil, .nil]], .agg [.nil, .nil, .nil, .agg [.nil, .nil, .nil]]], [], places) := ⟨[], by kernel_rfl⟩
  obtain ⟨places, hx⟩ := hx
  refine returnsInHanded_of_row (C := Tryz.checked) (s := (OpenSpec.ofChange Rows.pledgeBindsSpec)) own started (by kernel_rfl) Tryz.func6
    (witness_row_at (enc := enc) (C := Tryz.checked) false (laidWorld os) #[.int .i64 0, .int .i64 0, .int .i64 0, .slice none 0 0, .slice none 0 0, .int .i64 0, .slice none 0 0, .int .i64 0, .agg #[.slice none 0 0, .slice none 0 0, .slice none 0 0, .slice none 0 0, .slice none 0 0, .slice none 0 0], .agg #[.slice none 0 0, .slice none 0 0, .slice none 0 0, .slice none 0 0, .slice none 0 0, .slice none 0 0]] rfl (by kernel_rfl) (by kernel_rfl) (by kernel_rfl)
      (OpenSpec.preRow_of_cond 8 hx (by kernel_rfl) (fun k hk => by cases hk) (by kernel_rfl) (laidMetH_of_parts (laidMet_nil _ _) (by kernel_rfl)))) ?_
  intro W base args ds gs before hval0 hW _ _ hsz hL _ _
  have hval : ∀ (j : Nat) t v, Tryz.f6.params[j]? = some t → args[j]? = some v → Value.okWide Tryz.prog W .any base t v := hval0
  have hW' := hW
  obtain ⟨p, q, hA0, hV0, rfl, hfz, hnd⟩ := hW
  have hA : DataW.TrodAll enc Tryz.prog W 0 (fun _ => true) true Tryz.f6.params.toList args.toList ds p := hA0
  have hV : DataW.TrodVars enc Tryz.prog W (fun _ => true) [] gs q := hV0
  rw [Tryz.params6] at hA hval
  obtain ⟨v0, vs0, d0, ds0, p0, s0, hargs, rfl, rfl, h0, hs0⟩ := trodAll_cons hA
  obtain ⟨v1, vs1, d1, ds1, p1, s1, rfl, rfl, rfl, h1, hs1⟩ := trodAll_cons hs0
  obtain ⟨v2, vs2, d2, ds2, p2, s2, rfl, rfl, rfl, h2, hs2⟩ := trodAll_cons hs1
  obtain ⟨v3, vs3, d3, ds3, p3, s3, rfl, rfl, rfl, h3, hs3⟩ := trodAll_cons hs2
  obtain ⟨v4, vs4, d4, ds4, p4, s4, rfl, rfl, rfl, h4, hs4⟩ := trodAll_cons hs3
  obtain ⟨v5, vs5, d5, ds5, p5, s5, rfl, rfl, rfl, h5, hs5⟩ := trodAll_cons hs4
  obtain ⟨v6, vs6, d6, ds6, p6, s6, rfl, rfl, rfl, h6, hs6⟩ := trodAll_cons hs5
  obtain ⟨v7, vs7, d7, ds7, p7, s7, rfl, rfl, rfl, h7, hs7⟩ := trodAll_cons hs6
  obtain ⟨v8, vs8, d8, ds8, p8, s8, rfl, rfl, rfl, h8, hs8⟩ := trodAll_cons hs7
  obtain ⟨v9, vs9, d9, ds9, p9, s9, rfl, rfl, rfl, h9, hs9⟩ := trodAll_cons hs8
  obtain ⟨rfl, rfl, rfl⟩ := trodAll_nil hs9
  obtain rfl : args = #[v0, v1, v2, v3, v4, v5, v6, v7, v8, v9] := arr_of_list hargs
  have hg := handle_of_laid hL
  obtain ⟨rfl, rfl⟩ : gs = [] ∧ q = [] := by
    cases gs with
    | nil => exact ⟨rfl, hV⟩
    | cons g r => exact absurd hV (by intro h; cases h)
  obtain ⟨a0, rfl, rfl, rfl, w0⟩ := open_int Tryz.underlying3 (hval 0 3 v0 rfl rfl) h0
  obtain ⟨a1, rfl, rfl, rfl, w1⟩ := open_int Tryz.underlying3 (hval 1 3 v1 rfl rfl) h1
  obtain ⟨a2, rfl, rfl, rfl, w2⟩ := open_int Tryz.underlying3 (hval 2 3 v2 rfl rfl) h2
  obtain ⟨a3, len3, cap3, rfl⟩ := okWide_slice Tryz.underlying23 (hval 3 23 v3 rfl rfl)
  have k3 := h3
  have lt3 : ∀ x ∈ p3, x.block < W.heap.size := by obtain ⟨m, hm⟩ := k3; exact DataW.trod_lt m _ _ _ hm
  obtain ⟨fuel3, hf3⟩ := h3
  obtain ⟨z3, rfl, hl3, hb3, hd3⟩ := open_list hf3
  have hr3 := reach_list (j := 3) hsz (by kernel_rfl) rfl hd3
  obtain ⟨a4, len4, cap4, rfl⟩ := okWide_slice Tryz.underlying23 (hval 4 23 v4 rfl rfl)
  have k4 := h4
  have lt4 : ∀ x ∈ p4, x.block < W.heap.size := by obtain ⟨m, hm⟩ := k4; exact DataW.trod_lt m _ _ _ hm
  obtain ⟨fuel4, hf4⟩ := h4
  obtain ⟨z4, rfl, hl4, hb4, hd4⟩ := open_list hf4
  have hr4 := reach_list (j := 4) hsz (by kernel_rfl) rfl hd4
  obtain ⟨a5, rfl, rfl, rfl, w5⟩ := open_int Tryz.underlying3 (hval 5 3 v5 rfl rfl) h5
  obtain ⟨a6, len6, cap6, rfl⟩ := okWide_slice Tryz.underlying23 (hval 6 23 v6 rfl rfl)
  have k6 := h6
  have lt6 : ∀ x ∈ p6, x.block < W.heap.size := by obtain ⟨m, hm⟩ := k6; exact DataW.trod_lt m _ _ _ hm
  obtain ⟨fuel6, hf6⟩ := h6
  obtain ⟨z6, rfl, hl6, hb6, hd6⟩ := open_list hf6
  have hr6 := reach_list (j := 6) hsz (by kernel_rfl) rfl hd6
  obtain ⟨a7, rfl, rfl, rfl, w7⟩ := open_int Tryz.underlying3 (hval 7 3 v7 rfl rfl) h7
  have k8 := h8
  have lt8 : ∀ x ∈ p8, x.block < W.heap.size := by obtain ⟨m, hm⟩ := k8; exact DataW.trod_lt m _ _ _ hm
  obtain ⟨ax8, ay8, az8, ap8, ar8, an8, cx8, cy8, cz8, cp8, cr8, cn8, root8, mixed8, point8, ps8, rows8, nodes8, rfl, hl8, hb8, hd8⟩ := open_pledge (hval 8 51 v8 rfl rfl) h8
  have hr8 := reach_plgD (reach_each (j := 8) hsz (by kernel_rfl) rfl) hd8
  have k9 := h9
  have lt9 : ∀ x ∈ p9, x.block < W.heap.size := by obtain ⟨m, hm⟩ := k9; exact DataW.trod_lt m _ _ _ hm
  obtain ⟨ax9, ay9, az9, ap9, ar9, an9, cx9, cy9, cz9, cp9, cr9, cn9, root9, mixed9, point9, ps9, rows9, nodes9, rfl, hl9, hb9, hd9⟩ := open_pledge (hval 9 51 v9 rfl rfl) h9
  have hr9 := reach_plgD (reach_each (j := 9) hsz (by kernel_rfl) rfl) hd9
  refine (ebinds_walk a0 a1 a2 a5 a7 a3 a4 a6 cap3 cap4 cap6 z3 z4 z6 ⟨ax8, ay8, az8, ap8, ar8, an8, cx8, cy8, cz8, cp8, cr8, cn8⟩ ⟨ax9, ay9, az9, ap9, ar9, an9, cx9, cy9, cz9, cp9, cr9, cn9⟩ ⟨root8, mixed8, point8, ps8, rows8, nodes8⟩ ⟨root9, mixed9, point9, ps9, rows9, nodes9⟩ W hg (wf_bounds w0).1 (wf_bounds w0).2 (wf_bounds w1).1 (wf_bounds w1).2 (wf_bounds w2).1 (wf_bounds w2).2 hr3 hr4 hb3 hb4 hl3 hl4 hl6 ⟨hl8.1, hl8.2.1, hl8.2.2.1, hl8.2.2.2.1, hl8.2.2.2.2.1, hl8.2.2.2.2.2⟩ ⟨hl9.1, hl9.2.1, hl9.2.2.1, hl9.2.2.2.1, hl9.2.2.2.2.1, hl9.2.2.2.2.2⟩ ⟨hb8.1, hb8.2.1, hb8.2.2.1, hb8.2.2.2.1, fitsR_of hb8.2.2.2.2.1 hr8.2.2.1.2, fitsR_of hb8.2.2.2.2.2 hr8.2.2.2.2, hb6, hr8.1.1, hr8.1.2.1, hr8.1.2.2, hr8.2.1, Nat.le_trans hr8.2.2.1.1 (by decide), Nat.le_trans hr8.2.2.2.1 (by decide), hr6⟩ ⟨hb9.1, hb9.2.1, hb9.2.2.1, hb9.2.2.2.1, fitsR_of hb9.2.2.2.2.1 hr9.2.2.1.2, fitsR_of hb9.2.2.2.2.2 hr9.2.2.2.2, hb6, hr9.1.1, hr9.1.2.1, hr9.1.2.2, hr9.2.1, Nat.le_trans hr9.2.2.1.1 (by decide), Nat.le_trans hr9.2.2.2.1 (by decide), hr6⟩).mono fun e W' ⟨he, hb⟩ => ?_
  subst he
  exact ⟨_, rfl, _, _, _, [], _, [], hW', trodAll_mk1 (shut_bool Tryz.underlying4 true), (trodAll_cons_mk (shut_int Tryz.underlying3 w0) (trodAll_cons_mk (shut_int Tryz.underlying3 w1) (trodAll_cons_mk (shut_int Tryz.underlying3 w2) (trodAll_cons_mk (Below.trod laidOut (by kernel_rfl) (of_decide_eq_true (by kernel_rfl)) k3 hb lt3) (trodAll_cons_mk (Below.trod laidOut (by kernel_rfl) (of_decide_eq_true (by kernel_rfl)) k4 hb lt4) (trodAll_cons_mk (shut_int Tryz.underlying3 w5) (trodAll_cons_mk (Below.trod laidOut (by kernel_rfl) (of_decide_eq_true (by kernel_rfl)) k6 hb lt6) (trodAll_cons_mk (shut_int Tryz.underlying3 w7) (trodAll_cons_mk (Below.trod laidOut (by kernel_rfl) (of_decide_eq_true (by kernel_rfl)) k8 hb lt8) (trodAll_cons_mk (Below.trod laidOut (by kernel_rfl) (of_decide_eq_true (by kernel_rfl)) k9 hb lt9) trodAll_mk0)))))))))), rfl, hb.frame _, fun h => by cases h⟩

theorem pledgeBinds_row : Rows.PledgeBindsSaid :=
  OpenClaim.holds_of_cond 6 Tryz.f6 rfl rfl rfl rfl rfl rfl rfl ⟨rfl, rfl, rfl, rfl, rfl⟩ rfl rfl rfl rfl rfl (by kernel_rfl) Tryz.func6 (by kernel_rfl)
    (of_decide_eq_true (by kernel_rfl)) (by unfold Func.isWrapper; rw [if_neg (of_decide_eq_false (by kernel_rfl))]; exact ⟨rfl, rfl⟩)
    (fun os started H enc _ F => by rw [OpenClaim.pre_eq_preRow]; exact pledgeBinds_lifted os started H enc F)

theorem pledgeBinds_card : Rows.PledgeBindsCardSaid :=
  Claim7.holds_tied_plain_at .later [] [.handle] true (true, "5f542afde8aefacf38dc02c5107941c2d801aa45251df14acebcfc808c9a57f3") true
    pledgeBinds_row (fun _ h => by cases h) (by kernel_rfl) (fun _ h => by cases h) pledgeBinds_row_tie rfl ⟨rfl, rfl⟩ (by kernel_rfl) rfl
    (fun f fn hf hfn => by
      obtain rfl : f = 6 := Option.some.inj ((show Tryz.prog.funcNamed Rows.pledgeBindsRow.func = some 6 by kernel_rfl).symm.trans hf) |>.symm
      obtain rfl : fn = Tryz.f6 := (Option.some.inj (Tryz.func6.symm.trans hfn)).symm
      exact ⟨by kernel_rfl, fun j t ht => by
        rw [Tryz.params6] at ht
        have h3 : t = 3 ∨ t = 23 ∨ t = 51 := by
          match j, ht with
          | 0, ht => left; simpa using ht.symm
          | 1, ht => left; simpa using ht.symm
          | 2, ht => left; simpa using ht.symm
          | 3, ht => right; left; simpa using ht.symm
          | 4, ht => right; left; simpa using ht.symm
          | 5, ht => left; simpa using ht.symm
          | 6, ht => right; left; simpa using ht.symm
          | 7, ht => left; simpa using ht.symm
          | 8, ht => right; right; simpa using ht.symm
          | 9, ht => right; right; simpa using ht.symm
          | n + 10, ht => simp at ht
        rcases h3 with rfl | rfl | rfl
        · exact (show Tryz.prog.wantsStandIn 3 = false by kernel_rfl)
        · exact (show Tryz.prog.wantsStandIn 23 = false by kernel_rfl)
        · exact (show Tryz.prog.wantsStandIn 51 = false by kernel_rfl)⟩)
    (by kernel_rfl)
#print axioms pledgeBinds_card
end Go.Proofs.YtmmlphdekeflfaaGreatDoor
