
import Derived.Test.YtkdndfbfmchcpaaGreatDoorTgAX
set_option maxRecDepth 1000000
set_option maxHeartbeats 8000000
namespace Go.Proofs.YtkdndfbfmchcpaaGreatDoor.Fol
open Pol Dom
end Go.Proofs.YtkdndfbfmchcpaaGreatDoor.Fol
namespace Go.Proofs.YtkdndfbfmchcpaaGreatDoor
open Go.RowKit
open Go.RowKit Pol
def Re (x:Int):List Int->List Int
 | []=>[x]
 | y :: r=>if x<y then x :: y :: r else if x=y then y :: r else y :: Re x r
theorem Mw (x z:Int):∀ os:List Int,z∈Re x os↔z=x∨z∈os
 | []=>by simp[Re]
 | y :: r=>by
  unfold Re;split
  ·simp
  ·split
   ·rename_i h;subst h;simp
   ·simp only[List.mem_cons,Mw x z r];constructor
    ·rintro (h | h | h)
     ·exact .inr (.inl h)
     ·exact .inl h
     ·exact .inr (.inr h)
    ·rintro (h | h | h)
     ·exact .inr (.inl h)
     ·exact .inl h
     ·exact .inr (.inr h)
theorem Uq (x:Int):∀ os:List Int,Asc os->Asc (Re x os)
 | [],_=>by simp[Re,Asc]
 | y :: r,h=>by
  have h1:=List.pairwise_cons.1 h;unfold Re;split
  ·rename_i hx
   refine List.pairwise_cons.2 ⟨fun z hz=>?_,h⟩;rcases List.mem_cons.1 hz with rfl | hz
   ·exact hx
   ·have:=h1.1 z hz;omega
  ·split
   ·exact h
   ·refine List.pairwise_cons.2 ⟨fun z hz=>?_,Uq x r h1.2⟩;rcases (Mw x z r).1 hz with rfl | hz
    ·omega
    ·exact h1.1 z hz
def onc (ps:List Int):List Int:=ps.foldr Re []
theorem Ec (ps:List Int):OnceIs ps (onc ps):=by
 induction ps with
 | nil=>exact⟨by simp[onc,Asc],fun x=>by simp[onc]⟩
 | cons a r ih =>
  refine⟨Uq a _ ih.1,fun x=>?_⟩;show x∈Re a (onc r)↔_;rw[Mw,List.mem_cons,ih.2]
theorem Xy {ps os:List Int} (h:OnceIs ps os):os=onc ps:=h.unique (Ec ps)
def pld (q n:Nat):Nat->List Int->List Int
 | 0,D=>D
 | i+1,D=>digl q n (4 :: pld q n i D)
def plz (q n N:Nat) (D:List Int) (i:Nat):Int:=(zat (pld q n (i+1) D) 0*q+zat (pld q n (i+1) D) 1) % (N:Int)
theorem Mx {q n N:Nat} (hN:0<N) (D:List Int) (i:Nat):0<=plz q n N D i/\plz q n N D i<(N:Int):=⟨Int.emod_nonneg _ (by omega),Int.emod_lt_of_pos _ (by omega)⟩
end Go.Proofs.YtkdndfbfmchcpaaGreatDoor
