/- GatesCatches: what is not so is seen by nearly all numbers: a claim about a layer that is not so is hidden by at most two elements, a line that is not so by at most as many as there are variables: for all arguments. The variables errors.errorType and math/bits.deBruijn32tab, deBruijn64tab read as their texts lay them (tied). -/
import Derived.Test.YtaapbopcfpihbabDoorLawJCatches
import Derived.Test.YtaapbopcfpihbabDoorEnds
import Derived.Test.YtaapbopcfpihbabDoorTie
import Derived.Test.YtaapbopcfpihbabDoorCards
import Derived.SevenTiedAt
import Derived.Deep.DeepHandedRow
import Derived.Test.YtaapbopcfpihbabDoorGcAS
import Derived.Test.YtaapbopcfpihbabDoorLaidX
namespace Go.Proofs.YtaapbopcfpihbabDoor
open Go.ChangeShapes Go.WideShapes Go.ChangeAt Go.RowKit
open Go.ChangeMaps (open_string shut_string)

set_option maxRecDepth 100000 in
theorem gatesCatches_lifted (os : Os) (started : os.Started) (H : Type) (enc : TypeId × Value → H) (F : Stop.Interp) :
    ReturnsInHanded {} Tryd.checked os 3 .any ((OpenSpec.ofChange Rows.gatesCatchesSpec).preRow enc Tryd.prog Tryd.f3 Rows.gatesCatchesRow.domain false Rows.gatesCatchesRow.laid) (((OpenSpec.ofChange Rows.gatesCatchesSpec).at F).post enc Tryd.prog Tryd.f3 false true false false) := by
  have hx : ∃ places, DataW.whole enc Tryd.prog ((laidWorld3 os).forCall (fun _ _ => 0) ⟨#[], #[.int .i64 0, .agg #[.int .i64 0, .slice none 0 0], .int .i64 0, .slice none 0 0, .slice none 0 0, .slice none 0 0, .slice none 0 0, .slice none 0 0, .slice none 0 0], []⟩).memory Tryd.f3.params.toList Rows.gatesCatchesSpec.vars false (#[.int .i64 0, .agg #[.int .i64 0, .slice none 0 0], .int .i64 0, .slice none 0 0, .slice none 0 0, .slice none 0 0, .slice none 0 0, .slice none 0 0, .slice none 0 0] : Array Value).toList 8 = some ([.lit (.int .i64 0), .agg [.lit (.int .i64 0), .nil], .lit (.int .i64 0), .nil, .nil, .nil, .nil, .nil, .nil], [], places) := ⟨[], by kernel_rfl⟩
  obtain ⟨places, hx⟩ := hx
  refine returnsInHanded_of_row (C := Tryd.checked) (s := (OpenSpec.ofChange Rows.gatesCatchesSpec)) own started (by kernel_rfl) Tryd.func3
    (witness_row_at (enc := enc) (C := Tryd.checked) false (laidWorld3 os) #[.int .i64 0, .agg #[.int .i64 0, .slice none 0 0], .int .i64 0, .slice none 0 0, .slice none 0 0, .slice none 0 0, .slice none 0 0, .slice none 0 0, .slice none 0 0] rfl (by kernel_rfl) (by kernel_rfl) (by kernel_rfl)
      (OpenSpec.preRow_of_cond 8 hx (by kernel_rfl) (fun k hk => by cases hk) (by kernel_rfl) (laidMetH_of_parts (laidMet_of_run' 8 (by kernel_rfl) (by kernel_rfl)) (by kernel_rfl)))) ?_
  intro W base args ds gs before hval0 hW _ _ hsz hL _ _
  have hval : ∀ (j : Nat) t v, Tryd.f3.params[j]? = some t → args[j]? = some v → Value.okWide Tryd.prog W .any base t v := hval0
  have hW' := hW
  obtain ⟨p, q, hA0, hV0, rfl, hfz, hnd⟩ := hW
  have hA : DataW.TrodAll enc Tryd.prog W 0 (fun _ => true) true Tryd.f3.params.toList args.toList ds p := hA0
  have hV : DataW.TrodVars enc Tryd.prog W (fun _ => true) [] gs q := hV0
  rw [Tryd.params3] at hA hval
  obtain ⟨v0, vs0, d0, ds0, p0, s0, hargs, rfl, rfl, h0, hs0⟩ := trodAll_cons hA
  obtain ⟨v1, vs1, d1, ds1, p1, s1, rfl, rfl, rfl, h1, hs1⟩ := trodAll_cons hs0
  obtain ⟨v2, vs2, d2, ds2, p2, s2, rfl, rfl, rfl, h2, hs2⟩ := trodAll_cons hs1
  obtain ⟨v3, vs3, d3, ds3, p3, s3, rfl, rfl, rfl, h3, hs3⟩ := trodAll_cons hs2
  obtain ⟨v4, vs4, d4, ds4, p4, s4, rfl, rfl, rfl, h4, hs4⟩ := trodAll_cons hs3
  obtain ⟨v5, vs5, d5, ds5, p5, s5, rfl, rfl, rfl, h5, hs5⟩ := trodAll_cons hs4
  obtain ⟨v6, vs6, d6, ds6, p6, s6, rfl, rfl, rfl, h6, hs6⟩ := trodAll_cons hs5
  obtain ⟨v7, vs7, d7, ds7, p7, s7, rfl, rfl, rfl, h7, hs7⟩ := trodAll_cons hs6
  obtain ⟨v8, vs8, d8, ds8, p8, s8, rfl, rfl, rfl, h8, hs8⟩ := trodAll_cons hs7
  obtain ⟨rfl, rfl, rfl⟩ := trodAll_nil hs8
  obtain rfl : args = #[v0, v1, v2, v3, v4, v5, v6, v7, v8] := arr_of_list hargs
  have hg := of_tabs3 hL
  obtain ⟨rfl, rfl⟩ : gs = [] ∧ q = [] := by
    cases gs with
    | nil => exact ⟨rfl, hV⟩
    | cons g r => exact absurd hV (by intro h; cases h)
  obtain ⟨a0, rfl, rfl, rfl, w0⟩ := open_int Tryd.underlying3 (hval 0 3 v0 rfl rfl) h0
  have k1 := h1
  have lt1 : ∀ x ∈ p1, x.block < W.heap.size := by obtain ⟨m, hm⟩ := k1; exact DataW.trod_lt m _ _ _ hm
  obtain ⟨wd1, aL1, cL1, L1, rfl, zb1, hL1, hI1, hd1⟩ := open_circuit (hval 1 24 v1 rfl rfl) h1
  have hr1 := reach_cirD (reach_each (j := 1) hsz (by kernel_rfl) rfl) hd1 hI1
  obtain ⟨a2, rfl, rfl, rfl, w2⟩ := open_int Tryd.underlying3 (hval 2 3 v2 rfl rfl) h2
  obtain ⟨a3, len3, cap3, rfl⟩ := okWide_slice Tryd.underlying25 (hval 3 25 v3 rfl rfl)
  have k3 := h3
  have lt3 : ∀ x ∈ p3, x.block < W.heap.size := by obtain ⟨m, hm⟩ := k3; exact DataW.trod_lt m _ _ _ hm
  obtain ⟨fuel3, hf3⟩ := h3
  obtain ⟨z3, rfl, hl3, hb3, hd3⟩ := open_list hf3
  have hr3 := reach_list (j := 3) hsz (by kernel_rfl) rfl hd3
  obtain ⟨a4, len4, cap4, rfl⟩ := okWide_slice Tryd.underlying25 (hval 4 25 v4 rfl rfl)
  have k4 := h4
  have lt4 : ∀ x ∈ p4, x.block < W.heap.size := by obtain ⟨m, hm⟩ := k4; exact DataW.trod_lt m _ _ _ hm
  obtain ⟨fuel4, hf4⟩ := h4
  obtain ⟨z4, rfl, hl4, hb4, hd4⟩ := open_list hf4
  have hr4 := reach_list (j := 4) hsz (by kernel_rfl) rfl hd4
  obtain ⟨a5, len5, cap5, rfl⟩ := okWide_slice Tryd.underlying25 (hval 5 25 v5 rfl rfl)
  have k5 := h5
  have lt5 : ∀ x ∈ p5, x.block < W.heap.size := by obtain ⟨m, hm⟩ := k5; exact DataW.trod_lt m _ _ _ hm
  obtain ⟨fuel5, hf5⟩ := h5
  obtain ⟨z5, rfl, hl5, hb5, hd5⟩ := open_list hf5
  have hr5 := reach_list (j := 5) hsz (by kernel_rfl) rfl hd5
  obtain ⟨a6, len6, cap6, rfl⟩ := okWide_slice Tryd.underlying25 (hval 6 25 v6 rfl rfl)
  have k6 := h6
  have lt6 : ∀ x ∈ p6, x.block < W.heap.size := by obtain ⟨m, hm⟩ := k6; exact DataW.trod_lt m _ _ _ hm
  obtain ⟨fuel6, hf6⟩ := h6
  obtain ⟨z6, rfl, hl6, hb6, hd6⟩ := open_list hf6
  have hr6 := reach_list (j := 6) hsz (by kernel_rfl) rfl hd6
  obtain ⟨a7, len7, cap7, rfl⟩ := okWide_slice Tryd.underlying25 (hval 7 25 v7 rfl rfl)
  have k7 := h7
  have lt7 : ∀ x ∈ p7, x.block < W.heap.size := by obtain ⟨m, hm⟩ := k7; exact DataW.trod_lt m _ _ _ hm
  obtain ⟨fuel7, hf7⟩ := h7
  obtain ⟨z7, rfl, hl7, hb7, hd7⟩ := open_list hf7
  have hr7 := reach_list (j := 7) hsz (by kernel_rfl) rfl hd7
  obtain ⟨a8, len8, cap8, rfl⟩ := okWide_slice Tryd.underlying25 (hval 8 25 v8 rfl rfl)
  have k8 := h8
  have lt8 : ∀ x ∈ p8, x.block < W.heap.size := by obtain ⟨m, hm⟩ := k8; exact DataW.trod_lt m _ _ _ hm
  obtain ⟨fuel8, hf8⟩ := h8
  obtain ⟨z8, rfl, hl8, hb8, hd8⟩ := open_list hf8
  have hr8 := reach_list (j := 8) hsz (by kernel_rfl) rfl hd8
  refine (jcatches_walk a0 cL1 cap3 cap4 cap5 cap6 cap7 cap8 wd1 a2 aL1 a3 a4 a5 a6 a7 a8 L1 z3 z4 z5 z6 z7 z8 W hg.1 hg.2 (wf_bounds w0).1 (wf_bounds w0).2 hr1 hL1 ⟨hr3, hb3, hl3⟩ ⟨hr4, hb4, hl4⟩ ⟨hr5, hb5, hl5⟩ ⟨hr6, hb6, hl6⟩ ⟨hr7, hb7, hl7⟩ ⟨hr8, hb8, hl8⟩).mono fun e W' ⟨he, hb⟩ => ?_
  subst he
  exact ⟨_, rfl, _, _, _, [], _, [], hW', trodAll_mk1 (shut_bool Tryd.underlying4 true), (trodAll_cons_mk (shut_int Tryd.underlying3 w0) (trodAll_cons_mk (Below.trod laidOut (by kernel_rfl) (of_decide_eq_true (by kernel_rfl)) k1 hb lt1) (trodAll_cons_mk (shut_int Tryd.underlying3 w2) (trodAll_cons_mk (Below.trod laidOut (by kernel_rfl) (of_decide_eq_true (by kernel_rfl)) k3 hb lt3) (trodAll_cons_mk (Below.trod laidOut (by kernel_rfl) (of_decide_eq_true (by kernel_rfl)) k4 hb lt4) (trodAll_cons_mk (Below.trod laidOut (by kernel_rfl) (of_decide_eq_true (by kernel_rfl)) k5 hb lt5) (trodAll_cons_mk (Below.trod laidOut (by kernel_rfl) (of_decide_eq_true (by kernel_rfl)) k6 hb lt6) (trodAll_cons_mk (Below.trod laidOut (by kernel_rfl) (of_decide_eq_true (by kernel_rfl)) k7 hb lt7) (trodAll_cons_mk (Below.trod laidOut (by kernel_rfl) (of_decide_eq_true (by kernel_rfl)) k8 hb lt8) trodAll_mk0))))))))), rfl, hb.frame _, fun h => by cases h⟩

theorem gatesCatches_row : Rows.GatesCatchesSaid :=
  OpenClaim.holds_of_cond 3 Tryd.f3 rfl rfl rfl rfl rfl rfl rfl ⟨rfl, rfl, rfl, rfl, rfl⟩ rfl rfl rfl rfl rfl (by kernel_rfl) Tryd.func3 (by kernel_rfl)
    (of_decide_eq_true (by kernel_rfl)) (by unfold Func.isWrapper; rw [if_neg (of_decide_eq_false (by kernel_rfl))]; exact ⟨rfl, rfl⟩)
    (fun os started H enc _ F => by rw [OpenClaim.pre_eq_preRow]; exact gatesCatches_lifted os started H enc F)

theorem gatesCatches_card : Rows.GatesCatchesCardSaid :=
  Claim7.holds_tied_plain_at .later [] [.data, .data, .handle] true (true, "2d0a31a22287399f21c64c5d3140d28c4224c6da0c617551e2fa706e86b10861") true
    gatesCatches_row (fun _ h => by cases h) (by kernel_rfl) (fun _ h => by cases h) gatesCatches_row_tie rfl ⟨rfl, rfl⟩ (by kernel_rfl) rfl
    (fun f fn hf hfn => by
      obtain rfl : f = 3 := Option.some.inj ((show Tryd.prog.funcNamed Rows.gatesCatchesRow.func = some 3 by kernel_rfl).symm.trans hf) |>.symm
      obtain rfl : fn = Tryd.f3 := (Option.some.inj (Tryd.func3.symm.trans hfn)).symm
      exact ⟨by kernel_rfl, fun j t ht => by
        rw [Tryd.params3] at ht
        have h3 : t = 3 ∨ t = 25 ∨ t = 24 := by
          match j, ht with
          | 0, ht => left; simpa using ht.symm
          | 1, ht => right; right; simpa using ht.symm
          | 2, ht => left; simpa using ht.symm
          | 3, ht => right; left; simpa using ht.symm
          | 4, ht => right; left; simpa using ht.symm
          | 5, ht => right; left; simpa using ht.symm
          | 6, ht => right; left; simpa using ht.symm
          | 7, ht => right; left; simpa using ht.symm
          | 8, ht => right; left; simpa using ht.symm
          | n + 9, ht => simp at ht
        rcases h3 with rfl | rfl | rfl
        · exact (show Tryd.prog.wantsStandIn 3 = false by kernel_rfl)
        · exact (show Tryd.prog.wantsStandIn 25 = false by kernel_rfl)
        · exact (show Tryd.prog.wantsStandIn 24 = false by kernel_rfl)⟩)
    (by kernel_rfl)
#print axioms gatesCatches_card
end Go.Proofs.YtaapbopcfpihbabDoor
