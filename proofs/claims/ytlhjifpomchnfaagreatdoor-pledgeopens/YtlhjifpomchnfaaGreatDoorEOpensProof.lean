/- PledgeOpens: any table is shown at any point as the document tells, or what is wrong is told; Check takes what is shown, and it is what the table Extends to: for all arguments. The variables errors.errorType and math/bits.deBruijn32tab, deBruijn64tab read as their texts lay them (tied). -/
import Derived.Test.YtlhjifpomchnfaaGreatDoorLawEOpens
import Derived.Test.YtlhjifpomchnfaaGreatDoorEnds
import Derived.Test.YtlhjifpomchnfaaGreatDoorTie
import Derived.Test.YtlhjifpomchnfaaGreatDoorCards
import Derived.SevenTiedAt
import Derived.Deep.DeepHandedRow
import Derived.Test.YtlhjifpomchnfaaGreatDoorLaidX
set_option maxRecDepth 1000000
set_option maxHeartbeats 8000000
namespace Go.Proofs.YtlhjifpomchnfaaGreatDoor
open Go.ChangeShapes Go.WideShapes Go.ChangeAt Go.RowKit
open Go.ChangeMaps (open_string shut_string)
theorem pledgeOpens_lifted (os : Os) (started : os.Started) (H : Type) (enc : TypeId × Value -> H) (F : Stop.Interp) :
  ReturnsInHanded {} Tryz.checked os 3 .any ((OpenSpec.ofChange Rows.pledgeOpensSpec).preRow enc Tryz.prog Tryz.f3 Rows.pledgeOpensRow.domain false Rows.pledgeOpensRow.laid) (((OpenSpec.ofChange Rows.pledgeOpensSpec).at F).post enc Tryz.prog Tryz.f3 false true false false) := by
 have hx : ∃ places, DataW.whole enc Tryz.prog ((laidWorld3 os).forCall (fun _ _ => 0) ⟨#[], #[.int .i64 0, .int .i64 0, .int .i64 0, .slice none 0 0, .slice none 0 0, .slice none 0 0, .int .i64 0], []⟩).memory Tryz.f3.params.toList Rows.pledgeOpensSpec.vars false (#[.int .i64 0, .int .i64 0, .int .i64 0, .slice none 0 0, .slice none 0 0, .slice none 0 0, .int .i64 0] : Array Value).toList 8 = some ([.lit (.int .i64 0), .lit (.int .i64 0), .lit (.int .i64 0), .nil, .nil, .nil, .lit (.int .i64 0)], [], places) := ⟨[], by kernel_rfl⟩
 obtain ⟨places, hx⟩ := hx
 refine returnsInHanded_of_row (C := Tryz.checked) (s := (OpenSpec.ofChange Rows.pledgeOpensSpec)) own started (by kernel_rfl) Tryz.func3
  (witness_row_at (enc := enc) (C := Tryz.checked) false (laidWorld3 os) #[.int .i64 0, .int .i64 0, .int .i64 0, .slice none 0 0, .slice none 0 0, .slice none 0 0, .int .i64 0] rfl (by kernel_rfl) (by kernel_rfl) (by kernel_rfl)
   (OpenSpec.preRow_of_cond 8 hx (by kernel_rfl) (fun k hk => by cases hk) (by kernel_rfl) (laidMetH_of_parts (laidMet_of_run' 8 (by kernel_rfl) (by kernel_rfl)) (by kernel_rfl)))) ?_
 intro W base args ds gs before hval0 hW _ _ hsz hL _ _
 have hval : ∀ (j : Nat) t v, Tryz.f3.params[j]? = some t -> args[j]? = some v -> Value.okWide Tryz.prog W .any base t v := hval0
 have hW' := hW
 obtain ⟨p, q, hA0, hV0, rfl, hfz, hnd⟩ := hW
 have hA : DataW.TrodAll enc Tryz.prog W 0 (fun _ => true) true Tryz.f3.params.toList args.toList ds p := hA0
 have hV : DataW.TrodVars enc Tryz.prog W (fun _ => true) [] gs q := hV0
 rw [Tryz.params3] at hA hval
 obtain ⟨v0, vs0, d0, ds0, p0, s0, hargs, rfl, rfl, h0, hs0⟩ := trodAll_cons hA
 obtain ⟨v1, vs1, d1, ds1, p1, s1, rfl, rfl, rfl, h1, hs1⟩ := trodAll_cons hs0
 obtain ⟨v2, vs2, d2, ds2, p2, s2, rfl, rfl, rfl, h2, hs2⟩ := trodAll_cons hs1
 obtain ⟨v3, vs3, d3, ds3, p3, s3, rfl, rfl, rfl, h3, hs3⟩ := trodAll_cons hs2
 obtain ⟨v4, vs4, d4, ds4, p4, s4, rfl, rfl, rfl, h4, hs4⟩ := trodAll_cons hs3
 obtain ⟨v5, vs5, d5, ds5, p5, s5, rfl, rfl, rfl, h5, hs5⟩ := trodAll_cons hs4
 obtain ⟨v6, vs6, d6, ds6, p6, s6, rfl, rfl, rfl, h6, hs6⟩ := trodAll_cons hs5
 obtain ⟨rfl, rfl, rfl⟩ := trodAll_nil hs6
 obtain rfl : args = #[v0, v1, v2, v3, v4, v5, v6] := arr_of_list hargs
 have hg := of_tabs3 hL
 obtain ⟨rfl, rfl⟩ : gs = [] /\ q = [] := by
  cases gs with
  | nil => exact ⟨rfl, hV⟩
  | cons g r => exact absurd hV (by intro h; cases h)
 obtain ⟨a0, rfl, rfl, rfl, w0⟩ := open_int Tryz.underlying3 (hval 0 3 v0 rfl rfl) h0
 obtain ⟨a1, rfl, rfl, rfl, w1⟩ := open_int Tryz.underlying3 (hval 1 3 v1 rfl rfl) h1
 obtain ⟨a2, rfl, rfl, rfl, w2⟩ := open_int Tryz.underlying3 (hval 2 3 v2 rfl rfl) h2
 obtain ⟨a3, len3, cap3, rfl⟩ := okWide_slice Tryz.underlying22 (hval 3 22 v3 rfl rfl)
 have k3 := h3
 have lt3 : ∀ x ∈ p3, x.block < W.heap.size := by obtain ⟨m, hm⟩ := k3; exact DataW.trod_lt m _ _ _ hm
 obtain ⟨fuel3, hf3⟩ := h3
 obtain ⟨z3, rfl, hl3, hb3, hd3⟩ := open_list hf3
 have hr3 := reach_list (j := 3) hsz (by kernel_rfl) rfl hd3
 obtain ⟨a4, len4, cap4, rfl⟩ := okWide_slice Tryz.underlying22 (hval 4 22 v4 rfl rfl)
 have k4 := h4
 have lt4 : ∀ x ∈ p4, x.block < W.heap.size := by obtain ⟨m, hm⟩ := k4; exact DataW.trod_lt m _ _ _ hm
 obtain ⟨fuel4, hf4⟩ := h4
 obtain ⟨z4, rfl, hl4, hb4, hd4⟩ := open_list hf4
 have hr4 := reach_list (j := 4) hsz (by kernel_rfl) rfl hd4
 obtain ⟨a5, len5, cap5, rfl⟩ := okWide_slice Tryz.underlying22 (hval 5 22 v5 rfl rfl)
 have k5 := h5
 have lt5 : ∀ x ∈ p5, x.block < W.heap.size := by obtain ⟨m, hm⟩ := k5; exact DataW.trod_lt m _ _ _ hm
 obtain ⟨fuel5, hf5⟩ := h5
 obtain ⟨z5, rfl, hl5, hb5, hd5⟩ := open_list hf5
 have hr5 := reach_list (j := 5) hsz (by kernel_rfl) rfl hd5
 obtain ⟨a6, rfl, rfl, rfl, w6⟩ := open_int Tryz.underlying3 (hval 6 3 v6 rfl rfl) h6
 refine (eopens_walk a0 a1 a2 a6 cap3 cap4 cap5 a3 a4 a5 z3 z4 z5 W hg.1 hg.2 (wf_bounds w0).1 (wf_bounds w0).2 (wf_bounds w1).1 (wf_bounds w1).2 (wf_bounds w2).1 (wf_bounds w2).2 hr3 hb3 hl3 hr4 hb4 hl4 hr5 hb5 hl5).mono fun e W' ⟨he, hb⟩ => ?_
 subst he
 exact ⟨_, rfl, _, _, _, [], _, [], hW', trodAll_mk1 (shut_bool Tryz.underlying4 true), (trodAll_cons_mk (shut_int Tryz.underlying3 w0) (trodAll_cons_mk (shut_int Tryz.underlying3 w1) (trodAll_cons_mk (shut_int Tryz.underlying3 w2) (trodAll_cons_mk (Below.trod laidOut (by kernel_rfl) (of_decide_eq_true (by kernel_rfl)) k3 hb lt3) (trodAll_cons_mk (Below.trod laidOut (by kernel_rfl) (of_decide_eq_true (by kernel_rfl)) k4 hb lt4) (trodAll_cons_mk (Below.trod laidOut (by kernel_rfl) (of_decide_eq_true (by kernel_rfl)) k5 hb lt5) (trodAll_cons_mk (shut_int Tryz.underlying3 w6) trodAll_mk0))))))), rfl, hb.frame _, fun h => by cases h⟩
theorem pledgeOpens_row : Rows.PledgeOpensSaid :=
 OpenClaim.holds_of_cond 3 Tryz.f3 rfl rfl rfl rfl rfl rfl rfl ⟨rfl, rfl, rfl, rfl, rfl⟩ rfl rfl rfl rfl rfl (by kernel_rfl) Tryz.func3 (by kernel_rfl)
  (of_decide_eq_true (by kernel_rfl)) (by unfold Func.isWrapper; rw [if_neg (of_decide_eq_false (by kernel_rfl))]; exact ⟨rfl, rfl⟩)
  (fun os started H enc _ F => by rw [OpenClaim.pre_eq_preRow]; exact pledgeOpens_lifted os started H enc F)
theorem pledgeOpens_card : Rows.PledgeOpensCardSaid :=
 Claim7.holds_tied_plain_at .later [] [.data, .data, .handle] true (true, "cf25286bc527041b96ce6b151d2c29f631868bef3ff11f2b1d1726abe49786bd") true
  pledgeOpens_row (fun _ h => by cases h) (by kernel_rfl) (fun _ h => by cases h) pledgeOpens_row_tie rfl ⟨rfl, rfl⟩ (by kernel_rfl) rfl
  (fun f fn hf hfn => by
   obtain rfl : f = 3 := Option.some.inj ((show Tryz.prog.funcNamed Rows.pledgeOpensRow.func = some 3 by kernel_rfl).symm.trans hf) |>.symm
   obtain rfl : fn = Tryz.f3 := (Option.some.inj (Tryz.func3.symm.trans hfn)).symm
   exact ⟨by kernel_rfl, fun j t ht => by
    rw [Tryz.params3] at ht
    have h3 : t = 3 ∨ t = 22 := by
     match j, ht with
     | 0, ht => left; simpa using ht.symm
     | 1, ht => left; simpa using ht.symm
     | 2, ht => left; simpa using ht.symm
     | 3, ht => right; simpa using ht.symm
     | 4, ht => right; simpa using ht.symm
     | 5, ht => right; simpa using ht.symm
     | 6, ht => left; simpa using ht.symm
     | n + 7, ht => simp at ht
    rcases h3 with rfl | rfl
    ·exact (show Tryz.prog.wantsStandIn 3 = false by kernel_rfl)
    ·exact (show Tryz.prog.wantsStandIn 22 = false by kernel_rfl)⟩)
  (by kernel_rfl)
#print axioms pledgeOpens_card
end Go.Proofs.YtlhjifpomchnfaaGreatDoor
