/- TopGates: what a circuit comes to is shown by few numbers, the inputs held to and the outputs told: for all arguments. The variables math/bits.deBruijn32tab and deBruijn64tab read as their texts lay them (tied). -/
import Derived.Test.YtkdndfbfmchcpaaGreatDoorLawTGates
import Derived.Test.YtkdndfbfmchcpaaGreatDoorTie
import Derived.Test.YtkdndfbfmchcpaaGreatDoorCards
import Derived.SevenTiedAt
import Derived.Deep.DeepHandedRow
import Derived.Test.YtkdndfbfmchcpaaGreatDoorTgBH
import Derived.Test.YtkdndfbfmchcpaaGreatDoorLaidX
set_option maxRecDepth 1000000
set_option maxHeartbeats 8000000
namespace Go.Proofs.YtkdndfbfmchcpaaGreatDoor
open Go.ChangeShapes Go.WideShapes Go.ChangeAt Go.RowKit
open Go.ChangeMaps (open_string shut_string)
theorem Jn (os:Os) (started:os.Started) (H:Type) (enc:TypeId × Value->H) (F:Stop.Interp) :
  ReturnsInHanded {} Tryz.checked os 3 .any ((OpenSpec.ofChange Rows.topGatesSpec).preRow enc Tryz.prog Tryz.f3 Rows.topGatesRow.domain false Rows.topGatesRow.laid) (((OpenSpec.ofChange Rows.topGatesSpec).at F).post enc Tryz.prog Tryz.f3 false true false false):=by
 have hx:∃ places,DataW.whole enc Tryz.prog ((laidWorld2 os).forCall (fun _ _=>0) ⟨#[],#[.int .i64 0,.int .i64 0,.int .i64 0,.agg #[.int .i64 0,.slice none 0 0],.slice none 0 0,.slice none 0 0,.int .i64 0],[]⟩).memory Tryz.f3.params.toList Rows.topGatesSpec.vars false (#[.int .i64 0,.int .i64 0,.int .i64 0,.agg #[.int .i64 0,.slice none 0 0],.slice none 0 0,.slice none 0 0,.int .i64 0]:Array Value).toList 8=some ([.lit (.int .i64 0),.lit (.int .i64 0),.lit (.int .i64 0),.agg [.lit (.int .i64 0),.nil],.nil,.nil,.lit (.int .i64 0)],[],places):=⟨[],by kernel_rfl⟩
 obtain⟨places,hx⟩:=hx
 refine returnsInHanded_of_row (C:=Tryz.checked) (s:=(OpenSpec.ofChange Rows.topGatesSpec)) own started (by kernel_rfl) Tryz.func3
  (witness_row_at (enc:=enc) (C:=Tryz.checked) false (laidWorld2 os) #[.int .i64 0,.int .i64 0,.int .i64 0,.agg #[.int .i64 0,.slice none 0 0],.slice none 0 0,.slice none 0 0,.int .i64 0] rfl (by kernel_rfl) (by kernel_rfl) (by kernel_rfl)
   (OpenSpec.preRow_of_cond 8 hx (by kernel_rfl) (fun k hk=>by cases hk) (by kernel_rfl) (laidMetH_of_parts (laidMet_of_run' 8 (by kernel_rfl) (by kernel_rfl)) (by kernel_rfl)))) ?_
 intro W base args ds gs before hval0 hW _ _ hsz hL _ _;have hval:∀ (j:Nat) t v,Tryz.f3.params[j]?=some t->args[j]?=some v->Value.okWide Tryz.prog W .any base t v:=hval0;have hW':=hW;obtain⟨p,q,hA0,hV0,rfl,hfz,hnd⟩:=hW;have hA:DataW.TrodAll enc Tryz.prog W 0 (fun _=>true) true Tryz.f3.params.toList args.toList ds p:=hA0;have hV:DataW.TrodVars enc Tryz.prog W (fun _=>true) [] gs q:=hV0;rw[Tryz.params3] at hA hval;obtain⟨v0,vs0,d0,ds0,p0,s0,hargs,rfl,rfl,h0,hs0⟩:=trodAll_cons hA;obtain⟨v1,vs1,d1,ds1,p1,s1,rfl,rfl,rfl,h1,hs1⟩:=trodAll_cons hs0;obtain⟨v2,vs2,d2,ds2,p2,s2,rfl,rfl,rfl,h2,hs2⟩:=trodAll_cons hs1;obtain⟨v3,vs3,d3,ds3,p3,s3,rfl,rfl,rfl,h3,hs3⟩:=trodAll_cons hs2;obtain⟨v4,vs4,d4,ds4,p4,s4,rfl,rfl,rfl,h4,hs4⟩:=trodAll_cons hs3;obtain⟨v5,vs5,d5,ds5,p5,s5,rfl,rfl,rfl,h5,hs5⟩:=trodAll_cons hs4;obtain⟨v6,vs6,d6,ds6,p6,s6,rfl,rfl,rfl,h6,hs6⟩:=trodAll_cons hs5;obtain⟨rfl,rfl,rfl⟩:=trodAll_nil hs6;obtain rfl:args=#[v0,v1,v2,v3,v4,v5,v6]:=Ru hargs;have hg:=aB3 hL
 obtain⟨rfl,rfl⟩:gs=[]/\q=[]:=by
  cases gs with
  | nil=>exact⟨rfl,hV⟩
  | cons g r=>exact absurd hV (by intro h;cases h)
 obtain⟨a0,rfl,rfl,rfl,w0⟩:=open_int Tryz.underlying3 (hval 0 3 v0 rfl rfl) h0;obtain⟨a1,rfl,rfl,rfl,w1⟩:=open_int Tryz.underlying3 (hval 1 3 v1 rfl rfl) h1;obtain⟨a2,rfl,rfl,rfl,w2⟩:=open_int Tryz.underlying3 (hval 2 3 v2 rfl rfl) h2;have k3:=h3;have lt3:∀ x∈p3,x.block<W.heap.size:=by obtain⟨m,hm⟩:=k3;exact DataW.trod_lt m _ _ _ hm
 obtain⟨wd3,aL3,cL3,L3,rfl,zb3,hL3,hI3,hd3⟩:=Ri (hval 3 24 v3 rfl rfl) h3;have hr3:=Yi (Yg (j:=3) hsz (by kernel_rfl) rfl) hd3 hI3;obtain⟨a4,len4,cap4,rfl⟩:=okWide_slice Tryz.underlying25 (hval 4 25 v4 rfl rfl);have k4:=h4;have lt4:∀ x∈p4,x.block<W.heap.size:=by obtain⟨m,hm⟩:=k4;exact DataW.trod_lt m _ _ _ hm
 obtain⟨fuel4,hf4⟩:=h4;obtain⟨z4,rfl,hl4,hb4,hd4⟩:=Nw hf4;have hr4:=Kn (j:=4) hsz (by kernel_rfl) rfl hd4;obtain⟨a5,len5,cap5,rfl⟩:=okWide_slice Tryz.underlying25 (hval 5 25 v5 rfl rfl);have k5:=h5;have lt5:∀ x∈p5,x.block<W.heap.size:=by obtain⟨m,hm⟩:=k5;exact DataW.trod_lt m _ _ _ hm
 obtain⟨fuel5,hf5⟩:=h5;obtain⟨z5,rfl,hl5,hb5,hd5⟩:=Nw hf5;have hr5:=Kn (j:=5) hsz (by kernel_rfl) rfl hd5;obtain⟨a6,rfl,rfl,rfl,w6⟩:=open_int Tryz.underlying3 (hval 6 3 v6 rfl rfl) h6;refine (Sf a0 a1 a2 wd3 a6 cL3 cap4 cap5 aL3 a4 a5 L3 z4 z5 W hg (yJ w0).1 (yJ w0).2 (yJ w1).1 (yJ w1).2 (yJ w2).1 (yJ w2).2 hr3 hL3 ⟨hr4,hb4,hl4⟩ hr5 hb5 hl5).mono fun e W' ⟨he,hb⟩=>?_;subst he;exact⟨_,rfl,_,_,_,[],_,[],hW',trodAll_mk1 (shut_bool Tryz.underlying4 true),(trodAll_cons_mk (shut_int Tryz.underlying3 w0) (trodAll_cons_mk (shut_int Tryz.underlying3 w1) (trodAll_cons_mk (shut_int Tryz.underlying3 w2) (trodAll_cons_mk (Below.trod Fm (by kernel_rfl) (of_decide_eq_true (by kernel_rfl)) k3 hb lt3) (trodAll_cons_mk (Below.trod Fm (by kernel_rfl) (of_decide_eq_true (by kernel_rfl)) k4 hb lt4) (trodAll_cons_mk (Below.trod Fm (by kernel_rfl) (of_decide_eq_true (by kernel_rfl)) k5 hb lt5) (trodAll_cons_mk (shut_int Tryz.underlying3 w6) trodAll_mk0))))))),rfl,hb.frame _,fun h=>by cases h⟩
theorem topGates_row:Rows.TopGatesSaid :=
 OpenClaim.holds_of_cond 3 Tryz.f3 rfl rfl rfl rfl rfl rfl rfl ⟨rfl,rfl,rfl,rfl,rfl⟩ rfl rfl rfl rfl rfl (by kernel_rfl) Tryz.func3 (by kernel_rfl)
  (of_decide_eq_true (by kernel_rfl)) (by unfold Func.isWrapper;rw[if_neg (of_decide_eq_false (by kernel_rfl))];exact⟨rfl,rfl⟩)
  (fun os started H enc _ F=>by rw[OpenClaim.pre_eq_preRow];exact Jn os started H enc F)
theorem topGates_card:Rows.TopGatesCardSaid :=
 Claim7.holds_tied_plain_at .later [] [.data, .data] true (true, "c7481c590dc8f79951fd416698f97da8b6306eb24d60a6cd9f9f5a039bed1301") false
  topGates_row (fun _ h=>by cases h) (by kernel_rfl) (fun _ h=>by cases h) topGates_row_tie rfl ⟨rfl,rfl⟩ (by kernel_rfl) rfl
  (fun f fn hf hfn=>by
   obtain rfl:f=3:=Option.some.inj ((show Tryz.prog.funcNamed Rows.topGatesRow.func=some 3 by kernel_rfl).symm.trans hf) |>.symm;obtain rfl:fn=Tryz.f3:=(Option.some.inj (Tryz.func3.symm.trans hfn)).symm
   exact⟨by kernel_rfl,fun j t ht=>by
    rw[Tryz.params3] at ht
    have h3:t=3∨t=25∨t=24:=by
     match j,ht with
     | 0,ht=>left;simpa using ht.symm
     | 1,ht=>left;simpa using ht.symm
     | 2,ht=>left;simpa using ht.symm
     | 3,ht=>right;right;simpa using ht.symm
     | 4,ht=>right;left;simpa using ht.symm
     | 5,ht=>right;left;simpa using ht.symm
     | 6,ht=>left;simpa using ht.symm
     | n+7,ht=>simp at ht
    rcases h3 with rfl | rfl | rfl
    ·exact (show Tryz.prog.wantsStandIn 3=false by kernel_rfl)
    ·exact (show Tryz.prog.wantsStandIn 25=false by kernel_rfl)
    ·exact (show Tryz.prog.wantsStandIn 24=false by kernel_rfl)⟩)
  (by kernel_rfl)
#print axioms topGates_card
end Go.Proofs.YtkdndfbfmchcpaaGreatDoor
