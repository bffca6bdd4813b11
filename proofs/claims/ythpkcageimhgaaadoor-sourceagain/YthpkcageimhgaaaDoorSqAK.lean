/- Package source: what is wrong with a part's own name. A round of a range over a function that goes on, or is left by a panic: a law of our own. -/
import Derived.Test.YthpkcageimhgaaaDoorSqAJ
import Derived.RangeFuncNested
import Derived.RangeFuncBound
import Derived.RangeFuncCalls
import Derived.RangeFuncLeaves
import Derived.Shelf.Abstract
import Derived.WalkKit
import Derived.OwnWalkIn
import Derived.TacticsInMore
import Derived.LoopNIn
import Derived.LoopIn
namespace Go.Proofs.YthpkcageimhgaaaDoor
open Go.RowKit

/-- what is wrong with a name, where some names stand for something -/
def onf (sig : List UInt8 → Nat → Bool) (k : Nat) (nm : List UInt8) (n : Nat) (known : List (List UInt8)) : Nat :=
  if k = 9 then (if nm ∈ known then 4 else 0) else if k = 1 then (if nm ∈ known then 0 else 6) else if k = 2 then (if sig nm n then 0 else 6) else 0
theorem belNS (w : World) (n : Nat) : Below w.heap.size w (w.drewN n) := ⟨rfl, rfl, rfl, Nat.le_refl _, fun _ _ => rfl⟩
theorem find_mem (l : List (List UInt8 × Int)) (nm : List UInt8) : (l.find? (fun x => x.1 == nm) = none ∧ ¬ nm ∈ l.map (·.1)) ∨ ∃ x, l.find? (fun x => x.1 == nm) = some x ∧ nm ∈ l.map (·.1) := by
  cases h : l.find? (fun x => x.1 == nm) with
  | none =>
    refine .inl ⟨rfl, fun hm => ?_⟩
    rw [List.find?_eq_none] at h
    obtain ⟨x, hx, rfl⟩ := List.mem_map.1 hm
    exact h x hx (by simp)
  | some x =>
    refine .inr ⟨x, rfl, ?_⟩
    have h1 := List.mem_of_find?_eq_some h
    have h2 := List.find?_some h
    simp at h2
    exact List.mem_map.2 ⟨x, h1, h2⟩

set_option maxRecDepth 100000 in
set_option maxHeartbeats 1000000 in
theorem nameFault_any (sig : List UInt8 → Nat → Bool) (b B k at' n nk : Nat) (nm : List UInt8) (av a : Option Addr) (c : Nat) (l : List (List UInt8 × Int)) (M : List UInt8 × Nat → Option Int) (w : World)
    (hP : w.heap[b]? = some (.cells #[.int .i64 (k : Int), .string (bs nm), .int .i64 (at' : Int), .int .i64 (n : Int), .slice av nk c] 84 (0, 0))) (hS : ScP w (.pointer a) l) (hM : MapI sgk sgo w B M) (hsig : ∀ x, sgo x → (M x).isSome = sig x.1 x.2) (ho : sgo (nm, nk)) :
    Calls Tryd.prog 43 #[.pointer (some ⟨b, 0, none⟩), .pointer a, .map (some B)] w fun e w' => e = .returned (.int .i64 (onf sig k nm nk (l.map (·.1)) : Nat)) ∧ Below w.heap.size w w' := by
  have hnot : ∀ (x : Bool) (w : World), (Op.unary .not (.bool x)).run Tryd.prog w = .ok (.bool (!x)) w := fun _ _ => rfl
  have c0 : w.cell? ⟨b, 0, none⟩ = some (.int .i64 (k : Int)) := by simp [World.cell?, hP]
  have c1 : w.cell? ⟨b, 1, none⟩ = some (.string (bs nm)) := by simp [World.cell?, hP]
  have c4 : w.cell? ⟨b, 4, none⟩ = some (.slice av nk c) := by simp [World.cell?, hP]
  have HF := hid (find_any nm _ l w hS)
  have HFM := hid (find_mem l nm)
  have HSG := hid (hsig _ ho)
  have HLK := hid (fun (W : World) (h : W.heap[B]? = w.heap[B]?) => (hM.block h).lookup sigK ho true)
  unfold onf
  clear hP hS hM hsig ho
  by_cases h9 : k = 9
  · rw [if_pos h9]
    have q9 : ((k : Int) == 9) = true := by rw [h9]; rfl
    rcases HFM.out with ⟨hf, hm⟩ | ⟨x, hf, hm⟩
    · rw [if_neg hm]
      rw [hf] at HF
      clear h9 hm hf HFM HLK
      go_enter Tryd.func43, Tryd.ntmps43
      go_wp2_with fail
      refine HF.out.mono ?_
      rintro e w1 ⟨rfl, u, rfl, hu⟩
      have hu' : u = .pointer none := hu
      subst hu'
      go_wp2_with fail
      go_ret
      exact ⟨rfl, Below.refl _ _⟩
    · rw [if_pos hm]
      rw [hf] at HF
      clear h9 hm hf HFM HLK
      go_enter Tryd.func43, Tryd.ntmps43
      go_wp2_with fail
      refine HF.out.mono ?_
      rintro e w1 ⟨rfl, u, rfl, b2, u2, rfl, _⟩
      go_wp2_with fail
      go_ret
      exact ⟨rfl, Below.refl _ _⟩
  · rw [if_neg h9]
    have q9 : ((k : Int) == 9) = false := by simp; omega
    by_cases h1 : k = 1
    · rw [if_pos h1]
      have q1 : ((k : Int) == 1) = true := by rw [h1]; rfl
      rcases HFM.out with ⟨hf, hm⟩ | ⟨x, hf, hm⟩
      · rw [if_neg hm]
        rw [hf] at HF
        clear h9 h1 hm hf HFM HLK
        go_enter Tryd.func43, Tryd.ntmps43
        go_wp2_with fail
        refine HF.out.mono ?_
        rintro e w1 ⟨rfl, u, rfl, hu⟩
        have hu' : u = .pointer none := hu
        subst hu'
        go_wp2_with fail
        go_ret
        exact ⟨rfl, Below.refl _ _⟩
      · rw [if_pos hm]
        rw [hf] at HF
        clear h9 h1 hm hf HFM HLK
        go_enter Tryd.func43, Tryd.ntmps43
        go_wp2_with fail
        refine HF.out.mono ?_
        rintro e w1 ⟨rfl, u, rfl, b2, u2, rfl, _⟩
        go_wp2_with fail
        go_ret
        exact ⟨rfl, Below.refl _ _⟩
    · rw [if_neg h1]
      have q1 : ((k : Int) == 1) = false := by simp; omega
      by_cases h2 : k = 2
      · rw [if_pos h2]
        have q2 : ((k : Int) == 2) = true := by rw [h2]; rfl
        obtain ⟨mv, hmv⟩ : ∃ mv, M (nm, nk) = mv := ⟨_, rfl⟩
        have hs2 := HSG.out
        rw [hmv] at HLK hs2
        have HL2 : Hid (∀ (W : World), W.heap[B]? = w.heap[B]? → (Instr.lookup 71 (.map (some B)) (.agg #[.string (bs nm), .int .i64 (nk : Int)]) true).run Tryd.prog W = .ok (.tuple #[.int .i64 (mv.getD 0), .bool (sig nm nk)]) W) := fun W h => by
          have := HLK.out W h
          rw [hs2] at this
          exact this
        generalize mv.getD 0 = z at HL2
        have hlk : ∀ d, (Instr.lookup 71 (.map (some B)) (.agg #[.string (bs nm), .int .i64 (nk : Int)]) true).run Tryd.prog (w.drewN d) = .ok (.tuple #[.int .i64 z, .bool (sig nm nk)]) (w.drewN d) := fun d => HL2.out _ rfl
        clear h9 h1 h2 HF HFM HLK hs2 hmv HSG HL2
        cases hsg : sig nm nk
        all_goals
          rw [hsg] at hlk
          clear hsg
          go_enter Tryd.func43, Tryd.ntmps43
          go_wp2_with fail
          go_quiet (fail)
          go_wp2_with fail
          go_ret
          exact ⟨rfl, belNS w _⟩
      · rw [if_neg h2]
        have q2 : ((k : Int) == 2) = false := by simp; omega
        clear h9 h1 h2 HF HFM HLK
        go_enter Tryd.func43, Tryd.ntmps43
        go_wp2_with fail
        go_ret
        exact ⟨rfl, Below.refl _ _⟩

end Go.Proofs.YthpkcageimhgaaaDoor

namespace Go.Proofs.YthpkcageimhgaaaDoor
open Go.RowKit Go.Shelf

/-- what is asked at a round's end: it goes on, or it panics -/
def rndPost (P : Program) (l : Nat) (R : Ending → World → Prop) : Exit → Act → World → Prop
  | .normal, _, w => ∃ v w', (Instr.endRound l none).run P w = .ok v w' ∧ R (.returned v) w'
  | .panic c, a, w => a.defers = [] ∧ R (.panicked c) w
  | _, _, _ => False

theorem round_of_wp {F : Fence} {n : Nat} {P : Program} {l f : Nat} {fnv : Func} {tmps : Array Value} {assign body : Code} {w : World} {R : Ending → World → Prop} (hF : F.fn f) (hfn : P.funcs[f]? = some fnv)
    (h : assign.wpIn (F.inRound l) n P (Exit.then (fun a₁ w₁ => ∃ w₂, (Instr.beginRound l).run P w₁ = .ok () w₂ ∧ body.wpIn (F.inRound l) n P (rndPost P l R) a₁ w₂) (fun _ _ _ => False))
      { tmps := tmps, defers := [] } w) :
    RoundIn F n P l f tmps assign body w R := by
  refine ⟨hF, fun c cs hr => ?_⟩
  let b : Frame := { (default : Frame) with fn := f, kind := .normal, roundOf := some l }
  have hb0 : Frame.round l f tmps assign body .normal = b.atR { tmps := tmps, defers := [] } [.code assign, .beginRound, .code body] := by
    simp [Frame.round, Frame.atR, b]
  have hr' : (F.inRound l).room ((c :: cs).length + 1 + n) := hr
  have hF' : (F.inRound l).fn b.fn := hF
  obtain ⟨e, a₁, w₁, hq, harr⟩ := h b [.beginRound, .code body] (c :: cs) rfl hF' hr'
  rw [← hb0] at harr
  cases e with
  | normal =>
    obtain ⟨w₂, hbr, hbody⟩ := hq
    have s1 : StepsIn (Machine.fenced P (F.inRound l)) P (lone (b.atR a₁ [.beginRound, .code body]) (c :: cs) w₁) (lone (b.atR a₁ [.code body]) (c :: cs) w₂) :=
      .one (fenced_calm (fr := b.atR a₁ [.beginRound, .code body]) hF' hr' rfl) (stepR_beginRound rfl hbr)
    obtain ⟨e₂, a₂, w₃, hq₂, harr₂⟩ := hbody b [] (c :: cs) rfl hF' hr'
    cases e₂ with
    | normal =>
      obtain ⟨v, w₄, hend, hR⟩ := hq₂
      exact ⟨.returned v, w₄, hR, (StepsIn.trans harr s1).trans (StepsIn.trans harr₂ (.one (fenced_calm (fr := b.atR a₂ []) hF' hr' rfl) (stepR_round_end rfl rfl hend)))⟩
    | panic chain =>
      obtain ⟨hd, hR⟩ := hq₂
      obtain ⟨todo, hs⟩ := harr₂
      have hlv : ({ b.atR a₂ todo with mode := .panicking chain } : Frame).leaving P w₃ (.panicked chain) := ⟨rfl, hd, fnv, hfn⟩
      exact ⟨.panicked chain, w₃, hR, (StepsIn.trans harr s1).trans (StepsIn.trans hs (.one (fenced_leaving (F := F.inRound l) (n := n) hF' hr' hlv) (step_leave_panicked hlv)))⟩
    | ret => exact hq₂.elim
    | exit id => exact hq₂.elim
    | goto t => exact hq₂.elim
    | outgrown => exact hq₂.elim
  | exit id => exact hq.elim
  | goto t => exact hq.elim
  | ret => exact hq.elim
  | panic chain => exact hq.elim
  | outgrown => exact hq.elim

/-- a call of yield, where the loop's record is ready: the round goes on, and the record is as it was; or it panics -/
theorem yield_of {n : Nat} {P : Program} {l : Nat} {rec : Loop} {fnv : Func} {args : Array Value} {W : World} {R : Ending → World → Prop} {a₁ : Act} (hl : W.heap[l]? = some (.loop rec)) (hst : rec.state = .ready) (hpe : rec.pending = none) (hs : args.size = rec.params.size) (hfn : P.funcs[rec.fn]? = some fnv)
    (hassign : ∀ (K : Act → World → Prop), K a₁ W → rec.assign.wpIn (Fence.wide.inRound l) n P (Exit.then K (fun _ _ _ => False)) { tmps := (rec.params.zip args).foldl (fun t (p, v) => t.setIfInBounds p v) rec.tmps, defers := [] } W)
    (hbody : rec.body.wpIn (Fence.wide.inRound l) n P (fun e a W3 => match e with
      | .normal => W3.heap[l]? = some (.loop { rec with state := .busy }) ∧ R (.returned (.bool true)) (W3.putObj l (.loop rec))
      | .panic c => a.defers = [] ∧ R (.panicked c) W3
      | _ => False) a₁ (W.putObj l (.loop { rec with state := .busy }))) :
    YieldAt Fence.wide n P l args W R := by
  refine ⟨rec.fn, _, rec.assign, rec.body, run_yield hl hs, round_of_wp trivial hfn (hassign _ ⟨_, run_beginRound hl hst, wpIn_mono hbody ?_⟩)⟩
  intro e a W3 he
  cases e with
  | normal =>
    obtain ⟨h1, h2⟩ := he
    refine ⟨_, _, run_endRound none h1, ?_⟩
    have : ({ { rec with state := LoopState.busy } with state := if (none : Option Code).isNone then .ready else .done, pending := none } : Loop) = rec := by
      cases rec
      simp at hst hpe ⊢
      exact ⟨hst.symm, hpe.symm⟩
    rw [this]
    exact h2
  | panic c => exact he
  | ret => exact he
  | exit id => exact he
  | goto t => exact he
  | outgrown => exact he

end Go.Proofs.YthpkcageimhgaaaDoor
