/- PledgeChecks: For every input the law answers true: what Check tells of any pledge is what the document says. Package errors own variable errorType reads as its text lays it (tied). -/
import Derived.Test.YtmmlphdekeflfaaGreatDoorPcBB
import Derived.Test.YtmmlphdekeflfaaGreatDoorEnds
import Derived.Test.YtmmlphdekeflfaaGreatDoorTie
import Derived.Test.YtmmlphdekeflfaaGreatDoorCards
import Derived.SevenTiedAt
import Derived.Deep.DeepHandedRow
import Derived.Test.YtmmlphdekeflfaaGreatDoorPcBC
import Derived.Test.YtmmlphdekeflfaaGreatDoorEndsD
namespace Go.Proofs.YtmmlphdekeflfaaGreatDoor
open Go.ChangeShapes Go.WideShapes Go.ChangeAt Go.RowKit
open Go.ChangeMaps (open_string shut_string)

set_option maxRecDepth 100000 in
theorem pledgeChecks_lifted (os : Os) (started : os.Started) (H : Type) (enc : TypeId × Value → H) (F : Stop.Interp) :
    ReturnsInHanded {} Tryz.checked os 5 .any ((OpenSpec.ofChange Rows.pledgeChecksSpec).preRow enc Tryz.prog Tryz.f5 Rows.pledgeChecksRow.domain false Rows.pledgeChecksRow.laid) (((OpenSpec.ofChange Rows.pledgeChecksSpec).at F).post enc Tryz.prog Tryz.f5 false true false false) := by
  have hx : ∃ places, DataW.whole enc Tryz.prog ((laidWorld os).forCall (fun _ _ => 0) ⟨#[], #[.int .i64 0, .int .i64 0, .int .i64 0, .slice none 0 0, .int .i64 0, .slice none 0 0, .int .i64 0, .agg #[.slice none 0 0, .slice none 0 0, .slice none 0 0, .slice none 0 0, .slice none 0 0, .slice none 0 0]], []⟩).memory Tryz.f5.params.toList Rows.pledgeChecksSpec.vars false (#[.int .i64 0, .int .i64 0, .int .i64 0, .slice none 0 0, .int .i64 0, .slice none 0 0, .int .i64 0, .agg #[.slice none 0 0, .slice none 0 0, .slice none 0 0, .slice none 0 0, .slice none 0 0, .slice none 0 0]] : Array Value).toList 8 = some ([.lit (.int .i64 0), .lit (.int .i64 0), .lit (.int .i64 0), .nil, .lit (.int .i64 0), .nil, .lit (.int .i64 0), .agg [.nil, .nil, .nil, .agg [.nil, .nil, .nil]]], [], places) := ⟨[], by kernel_rfl⟩
  obtain ⟨places, hx⟩ := hx
  refine returnsInHanded_of_row (C := Tryz.checked) (s := (OpenSpec.ofChange Rows.pledgeChecksSpec)) own started (by kernel_rfl) Tryz.func5
    (witness_row_at (enc := enc) (C := Tryz.checked) false (laidWorld os) #[.int .i64 0, .int .i64 0, .int .i64 0, .slice none 0 0, .int .i64 0, .slice none 0 0, .int .i64 0, .agg #[.slice none 0 0, .slice none 0 0, .slice none 0 0, .slice none 0 0, .slice none 0 0, .slice none 0 0]] rfl (by kernel_rfl) (by kernel_rfl) (by kernel_rfl)
      (OpenSpec.preRow_of_cond 8 hx (by kernel_rfl) (fun k hk => by cases hk) (by kernel_rfl) (laidMetH_of_parts (laidMet_nil _ _) (by kernel_rfl)))) ?_
  intro W base args ds gs before hval0 hW _ _ hsz hL _ _
  have hval : ∀ (j : Nat) t v, Tryz.f5.params[j]? = some t → args[j]? = some v → Value.okWide Tryz.prog W .any base t v := hval0
  have hW' := hW
  obtain ⟨p, q, hA0, hV0, rfl, hfz, hnd⟩ := hW
  have hA : DataW.TrodAll enc Tryz.prog W 0 (fun _ => true) true Tryz.f5.params.toList args.toList ds p := hA0
  have hV : DataW.TrodVars enc Tryz.prog W (fun _ => true) [] gs q := hV0
  rw [Tryz.params5] at hA hval
  obtain ⟨v0, vs0, d0, ds0, p0, s0, hargs, rfl, rfl, h0, hs0⟩ := trodAll_cons hA
  obtain ⟨v1, vs1, d1, ds1, p1, s1, rfl, rfl, rfl, h1, hs1⟩ := trodAll_cons hs0
  obtain ⟨v2, vs2, d2, ds2, p2, s2, rfl, rfl, rfl, h2, hs2⟩ := trodAll_cons hs1
  obtain ⟨v3, vs3, d3, ds3, p3, s3, rfl, rfl, rfl, h3, hs3⟩ := trodAll_cons hs2
  obtain ⟨v4, vs4, d4, ds4, p4, s4, rfl, rfl, rfl, h4, hs4⟩ := trodAll_cons hs3
  obtain ⟨v5, vs5, d5, ds5, p5, s5, rfl, rfl, rfl, h5, hs5⟩ := trodAll_cons hs4
  obtain ⟨v6, vs6, d6, ds6, p6, s6, rfl, rfl, rfl, h6, hs6⟩ := trodAll_cons hs5
  obtain ⟨v7, vs7, d7, ds7, p7, s7, rfl, rfl, rfl, h7, hs7⟩ := trodAll_cons hs6
  obtain ⟨rfl, rfl, rfl⟩ := trodAll_nil hs7
  obtain rfl : args = #[v0, v1, v2, v3, v4, v5, v6, v7] := arr_of_list hargs
  have hg := handle_of_laid hL
  obtain ⟨rfl, rfl⟩ : gs = [] ∧ q = [] := by
    cases gs with
    | nil => exact ⟨rfl, hV⟩
    | cons g r => exact absurd hV (by intro h; cases h)
  obtain ⟨a0, rfl, rfl, rfl, w0⟩ := open_int Tryz.underlying3 (hval 0 3 v0 rfl rfl) h0
  obtain ⟨a1, rfl, rfl, rfl, w1⟩ := open_int Tryz.underlying3 (hval 1 3 v1 rfl rfl) h1
  obtain ⟨a2, rfl, rfl, rfl, w2⟩ := open_int Tryz.underlying3 (hval 2 3 v2 rfl rfl) h2
  obtain ⟨a3, len3, cap3, rfl⟩ := okWide_slice Tryz.underlying23 (hval 3 23 v3 rfl rfl)
  have k3 := h3
  have lt3 : ∀ x ∈ p3, x.block < W.heap.size := by obtain ⟨m, hm⟩ := k3; exact DataW.trod_lt m _ _ _ hm
  obtain ⟨fuel3, hf3⟩ := h3
  obtain ⟨z3, rfl, hl3, hb3, hd3⟩ := open_list hf3
  have hr3 := reach_list (j := 3) hsz (by kernel_rfl) rfl hd3
  obtain ⟨a4, rfl, rfl, rfl, w4⟩ := open_int Tryz.underlying3 (hval 4 3 v4 rfl rfl) h4
  obtain ⟨a5, len5, cap5, rfl⟩ := okWide_slice Tryz.underlying23 (hval 5 23 v5 rfl rfl)
  have k5 := h5
  have lt5 : ∀ x ∈ p5, x.block < W.heap.size := by obtain ⟨m, hm⟩ := k5; exact DataW.trod_lt m _ _ _ hm
  obtain ⟨fuel5, hf5⟩ := h5
  obtain ⟨z5, rfl, hl5, hb5, hd5⟩ := open_list hf5
  have hr5 := reach_list (j := 5) hsz (by kernel_rfl) rfl hd5
  obtain ⟨a6, rfl, rfl, rfl, w6⟩ := open_int Tryz.underlying3 (hval 6 3 v6 rfl rfl) h6
  have k7 := h7
  have lt7 : ∀ x ∈ p7, x.block < W.heap.size := by obtain ⟨m, hm⟩ := k7; exact DataW.trod_lt m _ _ _ hm
  obtain ⟨ax7, ay7, az7, ap7, ar7, an7, cx7, cy7, cz7, cp7, cr7, cn7, root7, mixed7, point7, ps7, rows7, nodes7, rfl, hl7, hb7, hd7⟩ := open_pledge (hval 7 51 v7 rfl rfl) h7
  have hr7 := reach_plgD (reach_each (j := 7) hsz (by kernel_rfl) rfl) hd7
  refine (echecks_walk a0 a1 a2 a4 a6 a3 a5 cap3 cap5 z3 z5 ⟨ax7, ay7, az7, ap7, ar7, an7, cx7, cy7, cz7, cp7, cr7, cn7⟩ ⟨root7, mixed7, point7, ps7, rows7, nodes7⟩ W hg (wf_bounds w0).1 (wf_bounds w0).2 (wf_bounds w1).1 (wf_bounds w1).2 (wf_bounds w2).1 (wf_bounds w2).2 (wf_bounds w4).1 (wf_bounds w4).2 hr3 hb3 hl3 hl5 ⟨hl7.1, hl7.2.1, hl7.2.2.1, hl7.2.2.2.1, hl7.2.2.2.2.1, hl7.2.2.2.2.2⟩ ⟨hb7.1, hb7.2.1, hb7.2.2.1, hb7.2.2.2.1, fitsR_of hb7.2.2.2.2.1 hr7.2.2.1.2, fitsR_of hb7.2.2.2.2.2 hr7.2.2.2.2, hb5, hr7.1.1, hr7.1.2.1, hr7.1.2.2, hr7.2.1, Nat.le_trans hr7.2.2.1.1 (by decide), Nat.le_trans hr7.2.2.2.1 (by decide), hr5⟩).mono fun e W' ⟨he, hb⟩ => ?_
  subst he
  exact ⟨_, rfl, _, _, _, [], _, [], hW', trodAll_mk1 (shut_bool Tryz.underlying4 true), (trodAll_cons_mk (shut_int Tryz.underlying3 w0) (trodAll_cons_mk (shut_int Tryz.underlying3 w1) (trodAll_cons_mk (shut_int Tryz.underlying3 w2) (trodAll_cons_mk (Below.trod laidOut (by kernel_rfl) (of_decide_eq_true (by kernel_rfl)) k3 hb lt3) (trodAll_cons_mk (shut_int Tryz.underlying3 w4) (trodAll_cons_mk (Below.trod laidOut (by kernel_rfl) (of_decide_eq_true (by kernel_rfl)) k5 hb lt5) (trodAll_cons_mk (shut_int Tryz.underlying3 w6) (trodAll_cons_mk (Below.trod laidOut (by kernel_rfl) (of_decide_eq_true (by kernel_rfl)) k7 hb lt7) trodAll_mk0)))))))), rfl, hb.frame _, fun h => by cases h⟩

theorem pledgeChecks_row : Rows.PledgeChecksSaid :=
  OpenClaim.holds_of_cond 5 Tryz.f5 rfl rfl rfl rfl rfl rfl rfl ⟨rfl, rfl, rfl, rfl, rfl⟩ rfl rfl rfl rfl rfl (by kernel_rfl) Tryz.func5 (by kernel_rfl)
    (of_decide_eq_true (by kernel_rfl)) (by unfold Func.isWrapper; rw [if_neg (of_decide_eq_false (by kernel_rfl))]; exact ⟨rfl, rfl⟩)
    (fun os started H enc _ F => by rw [OpenClaim.pre_eq_preRow]; exact pledgeChecks_lifted os started H enc F)

theorem pledgeChecks_card : Rows.PledgeChecksCardSaid :=
  Claim7.holds_tied_plain_at .later [] [.handle] true (true, "5f542afde8aefacf38dc02c5107941c2d801aa45251df14acebcfc808c9a57f3") true
    pledgeChecks_row (fun _ h => by cases h) (by kernel_rfl) (fun _ h => by cases h) pledgeChecks_row_tie rfl ⟨rfl, rfl⟩ (by kernel_rfl) rfl
    (fun f fn hf hfn => by
      obtain rfl : f = 5 := Option.some.inj ((show Tryz.prog.funcNamed Rows.pledgeChecksRow.func = some 5 by kernel_rfl).symm.trans hf) |>.symm
      obtain rfl : fn = Tryz.f5 := (Option.some.inj (Tryz.func5.symm.trans hfn)).symm
      exact ⟨by kernel_rfl, fun j t ht => by
        rw [Tryz.params5] at ht
        have h3 : t = 3 ∨ t = 23 ∨ t = 51 := by
          match j, ht with
          | 0, ht => left; simpa using ht.symm
          | 1, ht => left; simpa using ht.symm
          | 2, ht => left; simpa using ht.symm
          | 3, ht => right; left; simpa using ht.symm
          | 4, ht => left; simpa using ht.symm
          | 5, ht => right; left; simpa using ht.symm
          | 6, ht => left; simpa using ht.symm
          | 7, ht => right; right; simpa using ht.symm
          | n + 8, ht => simp at ht
        rcases h3 with rfl | rfl | rfl
        · exact (show Tryz.prog.wantsStandIn 3 = false by kernel_rfl)
        · exact (show Tryz.prog.wantsStandIn 23 = false by kernel_rfl)
        · exact (show Tryz.prog.wantsStandIn 51 = false by kernel_rfl)⟩)
    (by kernel_rfl)
#print axioms pledgeChecks_card
end Go.Proofs.YtmmlphdekeflfaaGreatDoor
