/- Package source: the names within a function, checked. Package source: functions asked by slices.ContainsFunc. Package source: the names of a text, checked. -/
import Derived.Test.YtmmgkdcojkmlcaaGreatDoorLFAF
namespace Go.Proofs.YtmmgkdcojkmlcaaGreatDoor
open Go.RowKit Go.Shelf

attribute [local go_sem] Oper.semAt_some

theorem all_any (x a : Option Addr) (w : World) : Calls Tryz.prog 85 #[.pointer x, .pointer a] w fun e w' => e = .returned (.func (.func 105) #[] #[.pointer (some ⟨w.heap.size, 0, none⟩), .pointer (some ⟨w.heap.size + 1, 0, none⟩)]) ∧ w' = (w.alloc (.cells #[.pointer x] 70)).alloc (.cells #[.pointer a] 181) := by
  go_enter Tryz.func85, Tryz.ntmps85
  go_wp2_with fail
  go_ret
  exact ⟨rfl, rfl⟩

theorem entersF {P : Program} {f : FuncId} {fn : Func} (hf : P.funcs[f]? = some fn) (hb : fn.body.isNone = false) (hn : (fn.name == "runtime.NumGoroutine") = false) (args : Array Value) (w : World) : (callFunc f args).run P w = .ok (.enter f args) w := by
  simp only [callFunc, Sem.run_bind, run_program, Result.andThen_ok, hf, hn, hb]
  rfl
/-- a code's walk in the frames of one function alone: a round that panics wants to know that its function is one of the program's -/
def wpB (f : Nat) (P : Program) (c : Code) (Q : Exit → Act → World → Prop) (a : Act) (w : World) : Prop :=
  ∀ (b : Frame) (k : List Item) (cs : List Frame), b.roundOf = none → b.fn = f → ∃ e a' w', Q e a' w' ∧ ArrivesIn (Machine.fenced P Fence.wide) P (lone (b.atR a (.code c :: k)) cs w) b k cs e a' w'
theorem wpB_seq {f n : Nat} {P : Program} {x y : Code} {Q : Exit → Act → World → Prop} {a : Act} {w : World} (h : x.wpIn Fence.wide n P (Exit.then (wpB f P y Q) Q) a w) : wpB f P (Code.seq x y) Q a w := by
  intro b k cs hro hb
  have h0 : (lone (b.atR a (.code (.seq x y) :: k)) cs w).fenced P Fence.wide := fenced_wide _ _
  obtain ⟨e, a₁, w₁, hq, harr⟩ := h b (.code y :: k) cs hro trivial (room_wide _)
  cases e with
  | normal =>
    obtain ⟨e₂, a₂, w₂, hq₂, harr₂⟩ := hq b k cs hro hb
    exact ⟨e₂, a₂, w₂, hq₂, .of_steps (.head h0 stepR_seq harr) harr₂⟩
  | exit id => exact ⟨_, a₁, w₁, hq, .of_steps (.one h0 stepR_seq) (.pass (x := .code y) rfl (fun _ _ => .inl (by simp)) harr)⟩
  | goto l => exact ⟨_, a₁, w₁, hq, .of_steps (.one h0 stepR_seq) (.pass (x := .code y) rfl (fun _ _ => .inl (by simp)) harr)⟩
  | ret => exact ⟨_, a₁, w₁, hq, .of_steps (.one h0 stepR_seq) (.pass (x := .code y) rfl (fun _ _ => .inl (by simp)) harr)⟩
  | panic ch => exact ⟨_, a₁, w₁, hq, .of_steps (.one h0 stepR_seq) (.pass (x := .code y) rfl (fun _ _ => .inl (by simp)) harr)⟩
  | outgrown => exact ⟨_, a₁, w₁, hq, .of_steps (.one h0 stepR_seq) (.pass (x := .code y) rfl (fun _ _ => .inl (by simp)) harr)⟩
theorem yield_of2 {n : Nat} {P : Program} {l : Nat} {rec : Loop} {fnv : Func} {args : Array Value} {W : World} {R : Ending → World → Prop} (hl : W.heap[l]? = some (.loop rec)) (hst : rec.state = .ready) (hpe : rec.pending = none) (hs : args.size = rec.params.size) (hfn : P.funcs[rec.fn]? = some fnv)
    (h : ∃ a₁, (∀ (K : Act → World → Prop), K a₁ W → rec.assign.wpIn (Fence.wide.inRound l) n P (Exit.then K (fun _ _ _ => False)) { tmps := (rec.params.zip args).foldl (fun t (p, v) => t.setIfInBounds p v) rec.tmps, defers := [] } W) ∧
    ∀ QQ : Exit → Act → World → Prop, Hid (∀ a W3, W3.heap[l]? = some (.loop { rec with state := .busy }) → R (.returned (.bool true)) (W3.putObj l (.loop rec)) → QQ .normal a W3) → Hid (∀ a W3 c, a.defers = [] → R (.panicked c) W3 → QQ (.panic c) a W3) →
      rec.body.wpIn (Fence.wide.inRound l) n P QQ a₁ (W.putObj l (.loop { rec with state := .busy }))) :
    YieldAt Fence.wide n P l args W R := by
  obtain ⟨a₁, h1, h2⟩ := h
  refine yield_of hl hst hpe hs hfn h1 (h2 _ (fun a W3 k1 k2 => ⟨k1, k2⟩) (fun a W3 c k1 k2 => ⟨k1, k2⟩))
/-- a code that goes on or panics -/
def nopa (Q : Exit → Act → World → Prop) : Exit → Act → World → Prop
  | .normal, a, w => Q .normal a w
  | .panic ch, a, w => Q (.panic ch) a w
  | _, _, _ => False
theorem wpB_block {f id : Nat} {P : Program} {c : Code} {Q : Exit → Act → World → Prop} {a : Act} {w : World} (h : wpB f P c (nopa Q) a w) : wpB f P (Code.block id c) Q a w := by
  intro b k cs hro hb
  have h0 : (lone (b.atR a (.code (.block id c) :: k)) cs w).fenced P Fence.wide := fenced_wide _ _
  obtain ⟨e, a₁, w₁, hq, harr⟩ := h b (.inBlock id :: k) cs hro hb
  cases e with
  | normal => exact ⟨.normal, a₁, w₁, hq, .head h0 stepR_block (StepsIn.trans harr (.one (fenced_wide _ _) stepR_inBlock))⟩
  | panic ch =>
    obtain ⟨todo, hs⟩ := harr
    exact ⟨.panic ch, a₁, w₁, hq, todo, .head h0 stepR_block hs⟩
  | exit id => exact hq.elim
  | goto l => exact hq.elim
  | ret => exact hq.elim
  | outgrown => exact hq.elim
theorem calls_of_wpB {n : Nat} {P : Program} {f : FuncId} {fn : Func} {c : Code} {args : Array Value} {w : World} {R : Ending → World → Prop} (hf : P.funcs[f]? = some fn) (hb : fn.body = some c)
    (h : wpB f P c (bodyPostM Fence.wide n P fn R) { tmps := args ++ Array.replicate (fn.ntmps - args.size) undef, defers := [] } w) : Calls P f args w R := by
  refine (callsIn_wide (n := n)).1 ⟨trivial, fun cs hr => ?_⟩
  let b : Frame := { (default : Frame) with fn := f, kind := .normal, roundOf := none }
  have henter : Frame.enter P f args .normal =
      b.atR { tmps := args ++ Array.replicate (fn.ntmps - args.size) undef, defers := [] } [.code c] := by
    simp [Frame.enter, Frame.atR, hf, hb, b]
  obtain ⟨e, a', w', hq, harr⟩ := h b [] cs rfl rfl
  rw [← henter] at harr
  cases e with
  | normal =>
    obtain ⟨e', w'', fr', hR, hs, hfn, hl⟩ := leaves_stepsInM a'.defers .returning w' { b.atR a' [] with mode := .returning } cs rfl rfl rfl hf rfl trivial hr hq
    exact ⟨e', w'', fr', hR, ComesIn.of_steps (StepsIn.trans harr (.one (fenced_wide _ _) (stepR_end rfl))) hs, hfn, hl⟩
  | ret =>
    obtain ⟨todo, hs₀⟩ := harr.1 rfl
    obtain ⟨e', w'', fr', hR, hs, hfn, hl⟩ := leaves_stepsInM a'.defers .returning w' { b.atR a' todo with mode := .returning } cs rfl rfl rfl hf rfl trivial hr hq
    exact ⟨e', w'', fr', hR, ComesIn.of_steps hs₀ hs, hfn, hl⟩
  | panic chain =>
    obtain ⟨todo, hs₀⟩ := harr
    obtain ⟨e', w'', fr', hR, hs, hfn, hl⟩ := leaves_stepsInM a'.defers (.panicking chain) w' { b.atR a' todo with mode := .panicking chain } cs rfl rfl rfl hf rfl trivial hr hq
    exact ⟨e', w'', fr', hR, ComesIn.of_steps hs₀ hs, hfn, hl⟩
  | exit id => exact hq.elim
  | goto l => exact hq.elim
  | outgrown => exact ⟨.outgrown, w', b, hq, harr.resolve_left (by simp [b]), rfl, trivial⟩
/-- a range over a function that is no round of another: its record is laid; the rounds are met in the function's own walk -/
theorem range_of {P : Program} {g : Operand} {ps : Array Tmp} {assign body : Code} {Q : Exit → Act → World → Prop} {a : Act} {w : World} {fn gf : Nat} {lb : Array Value} (hg : a.eval g = .func (.func gf) #[] lb) (eg : ∀ args w, (callFunc gf args).run P w = .ok (.enter gf args) w)
    (h : ∀ rec W1, rec = ({ state := .ready, pending := none, fn, tmps := a.tmps, params := ps, assign, body, defers := w.heap.size } : Loop) → W1 = (w.alloc (.deferred (some []))).alloc (.loop rec) →
      Calls P gf (#[.func (.yield (w.heap.size + 1)) #[] #[]] ++ lb) W1 (fun e W2 => match e with
        | .returned _ => W2.heap[w.heap.size + 1]? = some (.loop rec) ∧ Q .normal { a with defers := { target := .collected w.heap.size, args := #[] } :: a.defers } (W2.putObj (w.heap.size + 1) (.loop { rec with state := .exhausted }))
        | .panicked c => Q (.panic c) { a with defers := { target := .collected w.heap.size, args := #[] } :: a.defers } W2
        | .outgrown => False)) :
    wpB fn P (Code.rangeFunc g ps assign body) Q a w := by
  intro b k cs hro hb
  obtain ⟨rec, hrec⟩ : ∃ rec : Loop, rec = { state := .ready, pending := none, fn, tmps := a.tmps, params := ps, assign, body, defers := w.heap.size } := ⟨_, rfl⟩
  have hru : rec.state = .ready ∧ rec.pending = none := by rw [hrec]; exact ⟨rfl, rfl⟩
  obtain ⟨W1, hW1⟩ : ∃ W1, W1 = (w.alloc (.deferred (some []))).alloc (.loop rec) := ⟨_, rfl⟩
  have he0 : (Instr.enterLoop b.fn a.tmps ps assign body b.roundOf).run P w = .ok (w.heap.size + 1, [{ target := .collected w.heap.size, args := #[] }]) W1 := by
    rw [hro, hb, hW1, hrec]; exact run_enterLoop_outer _ _ _ _ _
  have hres : (resolve a.eval (rangeCall g (w.heap.size + 1)) 0).run P W1 = .ok { target := .fn (.func gf) lb, args := #[.func (.yield (w.heap.size + 1)) #[] #[]] } W1 := by
    simp only [resolve, hg]
    simp [go_sem]
  have hinv : (invoke (.fn (.func gf) lb) #[.func (.yield (w.heap.size + 1)) #[] #[]]).run P W1 = .ok (.enter gf (#[.func (.yield (w.heap.size + 1)) #[] #[]] ++ lb)) W1 := by
    simp [invoke, go_sem, eg]
  have henter := stepR_rangeFunc (P := P) (b := b) (a := a) (k := k) (cs := cs) (w := w) he0 hres hinv
  have h0 : (lone (b.atR a (.code (.rangeFunc g ps assign body) :: k)) cs w).fenced P Fence.wide := fenced_wide _ _
  obtain ⟨e, w₃, fr, hR, hsteps, hfn, hleave⟩ := ((callsIn_wide (n := 0)).2 (h rec W1 hrec hW1)).2 (b.atR { a with defers := [{ target := .collected w.heap.size, args := #[] }] ++ a.defers } (.inRangeFunc (w.heap.size + 1) :: k) :: cs) (room_wide _)
  cases e with
  | outgrown => exact hR.elim
  | returned v =>
    obtain ⟨h1, h2⟩ := hR
    refine ⟨.normal, _, _, h2, ?_⟩
    have hend : (Instr.endLoop (w.heap.size + 1)).run P w₃ = .ok none (w₃.putObj (w.heap.size + 1) (.loop { rec with state := .exhausted })) := by
      rw [run_endLoop (P := P) h1 (by rw [hru.1]; simp), hru.2]
    refine .head h0 henter (StepsIn.trans hsteps (.head (fenced_wide _ _) ?_ (.one (fenced_wide _ _) (stepR_endRangeFunc hend))))
    rw [← finish_atR_inRangeFunc (w.heap.size + 1) v]; exact step_leave_returned hleave
  | panicked chain =>
    refine ⟨.panic chain, _, w₃, hR, .inRangeFunc (w.heap.size + 1) :: k, .head h0 henter (StepsIn.trans hsteps (.one (fenced_wide _ _) ?_))⟩
    rw [← Frame.raise_atR]; exact step_leave_panicked hleave

set_option maxRecDepth 100000 in
set_option maxHeartbeats 2000000 in
theorem all1_in (sig : List UInt8 → Nat → Bool) (l bx ba : Nat) (Ctx : World → Prop) (hCtx : ∀ W W', Ctx W → Below W.heap.size W W' → Ctx W' ∧ l < W.heap.size)
    (hY : ∀ (W : World) (b k at' n nk c : Nat) (nm : List UInt8) (av a : Option Addr) (sc : List (List UInt8 × Int)), Ctx W → W.heap[b]? = some (.cells #[.int .i64 (k : Int), .string (bs nm), .int .i64 (at' : Int), .int .i64 (n : Int), .slice av nk c] 190 (0, 0)) → ScP W (.pointer a) sc → sgo (nm, nk) →
      YieldAt Fence.wide 0 Tryz.prog l #[.pointer (some ⟨b, 0, none⟩), .pointer a] W (LkP l W (if onf sig k nm nk (sc.map (·.1)) ≠ 0 then some (onf sig k nm nk (sc.map (·.1)), at') else none)))
    (t : Tr) (x a : Option Addr) (sc : List (List UInt8 × Int)) (W : World) (m : Nat) (hx : W.cell? ⟨bx, 0, none⟩ = some (.pointer x)) (ha : W.cell? ⟨ba, 0, none⟩ = some (.pointer a)) (hC : Ctx W) (hP : PT 0 W t (.pointer x)) (hS : ScP W (.pointer a) sc) (hO : TOk t) :
    CallsIn Fence.wide m Tryz.prog 105 #[.func (.yield l) #[] #[], .pointer (some ⟨bx, 0, none⟩), .pointer (some ⟨ba, 0, none⟩)] W (fun e W' => match lk sig t (sc.map (·.1)) with
      | none => (∃ v, e = .returned v) ∧ Below W.heap.size W W'
      | some y => e = pncF y.2 y.1 ∧ Fr l W W') := by
  have HW := hid (fun m => walkX sig l Ctx hCtx hY (tsz t) t (.pointer x) a sc W m (Nat.le_refl _) hC hP hS hO)
  clear hC hP hS hO hY hCtx
  generalize lk sig t (sc.map (·.1)) = res at *
  refine callsIn_of_wp Tryz.func105 rfl trivial ?_ rfl
  simp only [Tryz.ntmps105, List.size_toArray, List.length_cons, List.length_nil, Nat.reduceAdd, Nat.reduceSub, Array.replicate_succ, Array.replicate_zero, List.push_toArray, List.append_toArray, List.nil_append, List.cons_append]
  gi_wp2
  refine ⟨trivial, by simp [Fence.wide], (HW.out _).mono ?_⟩
  intro e W1 he
  cases res with
  | none =>
    obtain ⟨rfl, hb⟩ := he
    gi_wp2
    go_end0
    exact ⟨⟨_, rfl⟩, hb⟩
  | some y =>
    obtain ⟨rfl, hf⟩ := he
    exact ⟨rfl, rfl, hf⟩

/-- the first fault of the names in brackets -/
def bkf : List (List UInt8 × Nat) → List (List UInt8) → Option (Nat × Nat)
  | [], _ => none
  | x :: r, known => if x.1 ∈ known then some (4, x.2) else bkf r (x.1 :: known)
/-- the first fault of the names within a function -/
def ckw (sig : List UInt8 → Nat → Bool) (g : FnT) : Option (Nat × Nat) := match bkf g.more [] with
  | some e => some e
  | none => lk sig g.body (g.more.map (·.1)).reverse
theorem ScP.put {W : World} {l : Nat} {r : Loop} (hl : W.heap[l]? = some (.loop r)) (o : Obj) : ∀ {v : Value} {sc : List (List UInt8 × Int)}, ScP W v sc → ScP (W.putObj l o) v sc
  | _, [], h => h
  | _, x :: s, h => by
    obtain ⟨b, u, h1, h2, h3⟩ := h
    refine ⟨b, u, h1, ?_, ScP.put hl o h3⟩
    have hne : b ≠ l := fun e => by rw [e, hl] at h2; cases h2
    exact (World.putObj_heap_other hne).trans h2
theorem below_put {W W3 : World} {l : Nat} {r r' : Loop} (hl : W.heap[l]? = some (.loop r)) (h : Below (W.putObj l (.loop r')).heap.size (W.putObj l (.loop r')) W3) : W3.heap[l]? = some (.loop r') ∧ Below W.heap.size W (W3.putObj l (.loop r)) := by
  have hlt : l < W.heap.size := (Array.getElem?_eq_some_iff.1 hl).1
  have hsz : (W.putObj l (.loop r')).heap.size = W.heap.size := by simp [World.putObj]
  have h3 : W3.heap[l]? = some (.loop r') := (h.block l (by rw [hsz]; exact hlt)).trans (World.putObj_heap_same hlt)
  refine ⟨h3, ⟨h.os, h.tape, h.output, ?_, fun k hk => ?_⟩⟩
  · have := h.size; rw [hsz] at this; simpa [World.putObj] using this
  · by_cases e : k = l
    · rw [e, hl]; exact World.putObj_heap_same (Array.getElem?_eq_some_iff.1 h3).1
    · rw [World.putObj_heap_other e, h.block k (by rw [hsz]; exact hk), World.putObj_heap_other e]

theorem _root_.Go.RowKit.Below.past {N l : Nat} {w W : World} {o : Obj} (h : Below N w W) (hl : N ≤ l) : Below N w (W.putObj l o) :=
  ⟨h.os, h.tape, h.output, by simpa [World.putObj] using h.size, fun k hk => (World.putObj_heap_other (by omega)).trans (h.block k hk)⟩
theorem fr_put {W W3 : World} {l : Nat} {r r' : Loop} (hl : W.heap[l]? = some (.loop r)) (h : Below (W.putObj l (.loop r')).heap.size (W.putObj l (.loop r')) W3) : Fr l W W3 := by
  have hlt : l < W.heap.size := (Array.getElem?_eq_some_iff.1 hl).1
  have hsz : (W.putObj l (.loop r')).heap.size = W.heap.size := by simp [World.putObj]
  have hk : ∀ b, b < W.heap.size → b ≠ l → W3.heap[b]? = W.heap[b]? := fun b hb hne => (h.block b (by rw [hsz]; exact hb)).trans (World.putObj_heap_other hne)
  exact ⟨⟨h.os, h.tape, h.output, by have := h.size; rw [hsz] at this; exact this, fun b hb => hk b (by omega) (by omega)⟩, hk⟩

set_option maxRecDepth 100000 in
set_option maxHeartbeats 4000000 in
theorem checkWithin_any (sig : List UInt8 → Nat → Bool) (B : Nat) (g : FnT) (a2 : Option Addr) (c b : Nat) (M : List UInt8 × Nat → Option Int) (w : World) (hN : NmR 0 w a2 g.more) (hP : PT 0 w g.body (.pointer (some ⟨b, 0, none⟩))) (hO : TOk g.body) (hml : g.more.length ≤ 4000) (hmn : ∀ x, x ∈ g.more → x.1.length ≤ 4000)
    (hM : MapI sgk sgo w B M) (hsig : ∀ x, sgo x → (M x).isSome = sig x.1 x.2) :
    Calls Tryz.prog 59 #[.agg #[.string (bs g.name), .int .i64 (g.at' : Int), .slice a2 g.more.length c, .pointer (some ⟨b, 0, none⟩)], .map (some B)] w fun e w' => Below w.heap.size w w' ∧ match ckw sig g with
      | none => ∃ v, e = .returned v
      | some y => e = pncF y.2 y.1 := by
  obtain ⟨res, hres⟩ : ∃ res, Hid (res = ckw sig g) := ⟨_, rfl⟩
  rw [← hres.out]
  have HN := hid hN
  have HP := hid hP
  have HO := hid hO
  have HM := hid hM
  have HSG := hid hsig
  have HMN := hid hmn
  have HML := hid hml
  clear hN hP hO hM hsig hmn hml
  obtain ⟨R, hR⟩ : ∃ R : Ending → World → Prop, R = (fun e w' => Below w.heap.size w w' ∧ match res with
      | none => ∃ v, e = .returned v
      | some y => e = pncF y.2 y.1) := ⟨_, rfl⟩
  rw [← hR]
  have HRP : Hid (∀ e w', (Below w.heap.size w w' ∧ match res with
      | none => ∃ v, e = .returned v
      | some y => e = pncF y.2 y.1) → R e w') := by unfold Hid; rw [hR]; exact fun _ _ h => h
  clear hR
  refine calls_of_wpB (n := 8) Tryz.func59 rfl ?_
  simp only [Tryz.ntmps59, List.size_toArray, List.length_cons, List.length_nil, Nat.reduceAdd, Nat.reduceSub, Array.replicate_succ, Array.replicate_zero, List.push_toArray, List.append_toArray, List.nil_append, List.cons_append]
  refine wpB_seq (n := 8) ?_
  gi_wp2
  refine wpB_seq (n := 8) ?_
  gi_wp2
  refine wpB_seq (n := 8) ?_
  gi_wp2
  have HB0 : Hid (Below w.heap.size w ((w.alloc (.cells #[.string (bs g.name), .int .i64 (g.at' : Int), .slice a2 g.more.length c, .pointer (some ⟨b, 0, none⟩)] 72)).alloc (.cells #[.map (some B)] 148))) := ((Below.refl _ w).alloc (Nat.le_refl _) _).alloc (by simp) _
  have HC3 : Hid (((w.alloc (.cells #[.string (bs g.name), .int .i64 (g.at' : Int), .slice a2 g.more.length c, .pointer (some ⟨b, 0, none⟩)] 72)).alloc (.cells #[.map (some B)] 148)).cell? ⟨w.heap.size, 3, none⟩ = some (.pointer (some ⟨b, 0, none⟩))) := by unfold Hid; go_simp
  have HCM : Hid (((w.alloc (.cells #[.string (bs g.name), .int .i64 (g.at' : Int), .slice a2 g.more.length c, .pointer (some ⟨b, 0, none⟩)] 72)).alloc (.cells #[.map (some B)] 148)).cell? ⟨w.heap.size + 1, 0, none⟩ = some (.map (some B))) := by unfold Hid; go_simp
  generalize (w.alloc (.cells #[.string (bs g.name), .int .i64 (g.at' : Int), .slice a2 g.more.length c, .pointer (some ⟨b, 0, none⟩)] 72)).alloc (.cells #[.map (some B)] 148) = W0 at *
  gi_loopw [4, 13] (fun v iv wr => ∃ (k : Nat) (a : Option Addr) (sc : List (List UInt8 × Int)), k ≤ g.more.length ∧ iv = .int .i64 k ∧ v = .pointer a ∧ Hid (ScP wr (.pointer a) sc) ∧ Hid (sc.map (·.1) = ((g.more.take k).map (·.1)).reverse) ∧ Hid (bkf g.more [] = bkf (g.more.drop k) (sc.map (·.1))) ∧ Hid (Below W0.heap.size W0 wr))
    (fun _ iv _ => g.more.length - (intOf iv).toNat)
  case atStart => exact ⟨0, none, [], Nat.zero_le _, rfl, rfl, rfl, rfl, rfl, Below.refl _ _⟩
  case round =>
    obtain ⟨k, a, sc, hk, rfl, rfl, hsc, hmp, hbk, hbel⟩ := hrel
    have hkl := HML.out
    by_cases hlt : k < g.more.length
    · have hlt2 : (k : Int) < (g.more.length : Int) := by omega
      have hks : IntKind.i64.wrap ((k : Int) + 1) = (k : Int) + 1 := by rw [IntKind.wrap_i64]; omega
      obtain ⟨x, hx⟩ : ∃ x, g.more[k]? = some x := ⟨_, List.getElem?_eq_getElem hlt⟩
      obtain ⟨gb, rfl, _, h1, h2⟩ := HN.out k x hx
      have hb2 := (HB0.out.trans (hbel.out.mono HB0.out.size))
      have c0 := (hb2.cell (p := ⟨gb, k * 2, none⟩) (World.block_lt_of_cell? _ _ h1)).trans h1
      have c1 := (hb2.cell (p := ⟨gb, k * 2 + 1, none⟩) (World.block_lt_of_cell? _ _ h2)).trans h2
      clear h1 h2 hb2
      gi_wp2
      have hbA : Below wr.heap.size wr (wr.alloc (.cells #[.string (bs x.1), .int .i64 (x.2 : Int)] 68)) := (Below.refl _ _).alloc (Nat.le_refl _) _
      have d0 : (wr.alloc (.cells #[.string (bs x.1), .int .i64 (x.2 : Int)] 68)).cell? ⟨wr.heap.size, 0, none⟩ = some (.string (bs x.1)) := by go_simp
      have d1 : (wr.alloc (.cells #[.string (bs x.1), .int .i64 (x.2 : Int)] 68)).cell? ⟨wr.heap.size, 1, none⟩ = some (.int .i64 (x.2 : Int)) := by go_simp
      have HSA := hid (hsc.out.below hbA)
      have HBA : Hid (Below W0.heap.size W0 (wr.alloc (.cells #[.string (bs x.1), .int .i64 (x.2 : Int)] 68))) := hbel.out.trans (hbA.mono hbel.out.size)
      have HF := hid (find_any x.1 _ sc _ (hsc.out.below hbA))
      have HFM := hid (find_mem sc x.1)
      have hbk2 := hbk.out
      rw [List.drop_eq_getElem_cons hlt, show g.more[k] = x from Option.some.inj ((List.getElem?_eq_getElem hlt).symm.trans hx), bkf] at hbk2
      have HBK := hid hbk2
      have hmp2 := hmp.out
      have HMP : Hid (x.1 :: sc.map (·.1) = ((g.more.take (k + 1)).map (·.1)).reverse) := by
        unfold Hid
        rw [List.take_add_one, hx, hmp2]
        simp
      clear hbA hbk2 hbk hmp hmp2 hsc c0 c1
      refine ⟨trivial, callsIn_wide.2 (HF.out.mono ?_)⟩
      rintro e wB ⟨rfl, u, rfl, hu⟩
      clear HF
      generalize wr.alloc (.cells #[.string (bs x.1), .int .i64 (x.2 : Int)] 68) = wA at *
      rcases HFM.out with ⟨hf, hm⟩ | ⟨y, hf, hm⟩
      · rw [hf] at hu
        have hu' : u = .pointer none := hu
        subst hu'
        have HK2 := hid (HBK.out.trans (if_neg hm))
        clear hf hm hu HBK HFM
        gi_wp2
        refine ⟨trivial, callsIn_wide.2 ((with_any (bs x.1) 0 a wA).mono ?_)⟩
        rintro e wC ⟨rfl, rfl⟩
        have HSW := hid (HSA.out.with x.1 0)
        have HBW : Hid (Below W0.heap.size W0 (wA.alloc (.cells #[.string (bs x.1), .int .i64 0, .pointer a] 198))) := HBA.out.trans (((Below.refl _ wA).alloc (Nat.le_refl _) _).mono HBA.out.size)
        generalize wA.alloc (.cells #[.string (bs x.1), .int .i64 0, .pointer a] 198) = wC at *
        gi_wp2
        go_roundw
        case rel => exact ⟨k + 1, _, (x.1, 0) :: sc, by omega, by go_num, rfl, HSW, HMP, HK2, HBW⟩
        case measure => simp [intOf]; omega
      · rw [hf] at hu
        obtain ⟨ub, uu, rfl, _⟩ := hu
        have hK2 := HBK.out.trans (if_pos hm)
        have hre : res = some (4, x.2) := by rw [hres.out]; unfold ckw; rw [hK2]
        subst hre
        have HBF := hid (HB0.out.trans (HBA.out.mono HB0.out.size))
        clear hf hm hK2 HBK HFM
        gi_wp2
        exact HRP.out _ _ ⟨HBF.out, rfl⟩
    · obtain rfl : k = g.more.length := by omega
      have hb0 := hbk.out
      rw [List.drop_length, bkf] at hb0
      have hm0 := hmp.out
      rw [List.take_length] at hm0
      have hre : res = lk sig g.body (sc.map (·.1)) := by rw [hres.out, hm0]; unfold ckw; rw [hb0]
      have HRE := hid hre
      have hb2 := (HB0.out.trans (hbel.out.mono HB0.out.size))
      have HB2 := hid hb2
      have HSC := hid hsc.out
      have HPT := hid (HP.out.below hb2)
      have c3 := (hbel.out.cell (p := ⟨w.heap.size, 3, none⟩) (World.block_lt_of_cell? _ _ HC3.out)).trans HC3.out
      have cm := (hbel.out.cell (p := ⟨w.heap.size + 1, 0, none⟩) (World.block_lt_of_cell? _ _ HCM.out)).trans HCM.out
      have hMB := HM.out.block (hb2.block B HM.out.lt)
      clear hre hb0 hm0 hbk hmp hsc hres hb2
      gi_wp2
      refine wpB_seq (n := 8) ?_
      gi_wp2
      refine ⟨trivial, callsIn_wide.2 ((all_any _ _ wr).mono ?_)⟩
      rintro e wA ⟨rfl, rfl⟩
      have hbA : Below wr.heap.size wr ((wr.alloc (.cells #[.pointer (some ⟨b, 0, none⟩)] 70)).alloc (.cells #[.pointer a] 181)) := ((Below.refl _ wr).alloc (Nat.le_refl _) _).alloc (by simp) _
      have HBX : Hid (((wr.alloc (.cells #[.pointer (some ⟨b, 0, none⟩)] 70)).alloc (.cells #[.pointer a] 181)).cell? ⟨wr.heap.size, 0, none⟩ = some (.pointer (some ⟨b, 0, none⟩))) := by unfold Hid; go_simp
      have HBY : Hid (((wr.alloc (.cells #[.pointer (some ⟨b, 0, none⟩)] 70)).alloc (.cells #[.pointer a] 181)).cell? ⟨wr.heap.size + 1, 0, none⟩ = some (.pointer a)) := by unfold Hid; go_simp
      have HBA := hid hbA
      clear hbA
      generalize (wr.alloc (.cells #[.pointer (some ⟨b, 0, none⟩)] 70)).alloc (.cells #[.pointer a] 181) = wA at *
      gi_wp2
      refine wpB_block ?_
      refine range_of (gf := 105) (lb := #[.pointer (some ⟨wr.heap.size, 0, none⟩), .pointer (some ⟨wr.heap.size + 1, 0, none⟩)]) ?_ ?_ ?_
      · rfl
      · exact entersF Tryz.func105 (by kernel_rfl) (by kernel_rfl)
      intro rec W1 hrec hW1
      have hb1 : Below wA.heap.size wA W1 := by rw [hW1]; exact ((Below.refl _ wA).alloc (Nat.le_refl _) _).alloc (by simp) _
      have hl1 : W1.heap[wA.heap.size + 1]? = some (.loop rec) := by
        rw [hW1]; have := heap_alloc_new (wA.alloc (.deferred (some []))) (.loop rec); rwa [World.size_alloc] at this
      have hd1 : W1.heap[wA.heap.size]? = some (.deferred (some [])) := by
        rw [hW1]; exact (Below.heap_alloc _ _ _ (by simp)).trans (heap_alloc_new wA _)
      have hz1 : wA.heap.size + 1 < W1.heap.size := (Array.getElem?_eq_some_iff.1 hl1).1
      have hbr := HBA.out.trans (hb1.mono HBA.out.size)
      have hx1 := (hb1.cell (p := ⟨wr.heap.size, 0, none⟩) (World.block_lt_of_cell? _ _ HBX.out)).trans HBX.out
      have hy1 := (hb1.cell (p := ⟨wr.heap.size + 1, 0, none⟩) (World.block_lt_of_cell? _ _ HBY.out)).trans HBY.out
      have hm1 := hMB.below hbr
      have hcm1 := (hbr.cell (p := ⟨w.heap.size + 1, 0, none⟩) (World.block_lt_of_cell? _ _ cm)).trans cm
      have hst : rec.state = .ready ∧ rec.pending = none ∧ rec.fn = 59 ∧ rec.params = #[35, 36] := by rw [hrec]; exact ⟨rfl, rfl, rfl, rfl⟩
      have HK := hid (HRP.out)
      refine (callsIn_wide (n := 0)).1 ((all1_in sig (wA.heap.size + 1) wr.heap.size (wr.heap.size + 1) (fun W => Below W1.heap.size W1 W) (fun W W' h1 h2 => ⟨h1.trans (h2.mono h1.size), Nat.lt_of_lt_of_le hz1 h1.size⟩) ?_ g.body (some ⟨b, 0, none⟩) a sc W1 0 hx1 hy1 (Below.refl _ _) (HPT.out.below hbr) (HSC.out.below hbr) HO.out).mono ?_)
      · intro W b' k at' n nk c' nm av a' sc' hC hb' hs' hsg
        have hl : W.heap[wA.heap.size + 1]? = some (.loop rec) := (hC.block _ hz1).trans hl1
        refine yield_of2 (fnv := Tryz.f59) hl hst.1 hst.2.1 (by rw [hst.2.2.2]; rfl) (by rw [hst.2.2.1]; exact Tryz.func59) ?_
        apply Exists.intro
        constructor
        · intro K hK
          rw [hrec]
          dsimp only
          gi_wp2
          exact hK
        · intro QQ hQn hQp
          have hne : b' ≠ wA.heap.size + 1 := fun e => by rw [e, hl] at hb'; cases hb'
          have hneB : B ≠ wA.heap.size + 1 := by have := hMB.lt; have := HBA.out.size; omega
          have hneC : w.heap.size + 1 ≠ wA.heap.size + 1 := by have : w.heap.size + 1 < wr.heap.size := World.block_lt_of_cell? _ _ cm; have := HBA.out.size; omega
          have HNF := hid (nameFault_any sig b' B k at' n nk nm av a' c' sc' M (W.putObj (wA.heap.size + 1) (.loop { rec with state := .busy })) ((World.putObj_heap_other hne).trans hb') (hs'.put hl _) ((hm1.below hC).block (World.putObj_heap_other hneB)) HSG.out hsg)
          have HCM2 : (W.putObj (wA.heap.size + 1) (.loop { rec with state := .busy })).cell? ⟨w.heap.size + 1, 0, none⟩ = some (.map (some B)) := (World.cell?_of_block (a := ⟨w.heap.size + 1, 0, none⟩) (World.putObj_heap_other hneC)).trans ((hC.cell (p := ⟨w.heap.size + 1, 0, none⟩) (World.block_lt_of_cell? _ _ hcm1)).trans hcm1)
          have e3 : rec.body = _ := congrArg Loop.body hrec
          dsimp only at e3
          have hc2 : (W.putObj (wA.heap.size + 1) (.loop { rec with state := .busy })).cell? ⟨b', 2, none⟩ = some (.int .i64 (at' : Int)) := (World.cell?_of_block (a := ⟨b', 2, none⟩) (World.putObj_heap_other hne)).trans (by simp [World.cell?, hb'])
          have HPL := hid (fun (W3 : World) (h : Below (W.putObj (wA.heap.size + 1) (.loop { rec with state := .busy })).heap.size (W.putObj (wA.heap.size + 1) (.loop { rec with state := .busy })) W3) => below_put hl h)
          have HFr := hid (fun (W3 : World) (h : Below (W.putObj (wA.heap.size + 1) (.loop { rec with state := .busy })).heap.size (W.putObj (wA.heap.size + 1) (.loop { rec with state := .busy })) W3) => fr_put hl h)
          have HE3 := hid e3
          clear e3 hrec hW1 hb1 hl1 hd1 hz1 hbr hx1 hy1 hm1 hcm1 hst HK hMB hC hb' hs' hsg hl hne hneB hneC c3 cm
          generalize W.putObj (wA.heap.size + 1) (.loop { rec with state := .busy }) = W2 at *
          rw [HE3.out]
          clear HE3
          generalize onf sig k nm nk (sc'.map (·.1)) = er at *
          by_cases h0 : er = 0
          · subst h0
            rw [if_neg (by simp)] at hQn hQp
            gi_wp2
            refine ⟨trivial, rfl, (CallsIn.inRound _ (callsIn_wide.2 HNF.out)).mono ?_⟩
            rintro e W3 ⟨rfl, hb3⟩
            have HP3 := hid (HPL.out W3 hb3)
            clear hb3 HNF HPL HFr
            gi_wp2
            exact hQn.out _ _ HP3.out.1 ⟨rfl, HP3.out.2⟩
          · rw [if_pos h0] at hQn hQp
            have q0 : ((er : Int) != 0) = true := by simp; omega
            clear h0
            gi_wp2
            refine ⟨trivial, rfl, (CallsIn.inRound _ (callsIn_wide.2 HNF.out)).mono ?_⟩
            rintro e W3 ⟨rfl, hb3⟩
            have HP3 := hid (HFr.out W3 hb3)
            have hc3 := (hb3.cell (p := ⟨b', 2, none⟩) (World.block_lt_of_cell? _ _ hc2)).trans hc2
            clear hb3 HNF HPL HFr
            gi_wp2
            exact hQp.out _ _ _ rfl ⟨rfl, HP3.out⟩
      · intro e W2 he
        have hbW : Below w.heap.size w W1 := (HB2.out.trans (HBA.out.mono HB2.out.size)).trans (hb1.mono (Nat.le_trans HB2.out.size HBA.out.size))
        have hwA : w.heap.size ≤ wA.heap.size := Nat.le_trans HB2.out.size HBA.out.size
        have hre := HRE.out
        rw [← hre] at he
        cases hr : res with
        | none =>
          rw [hr] at he
          obtain ⟨⟨v, rfl⟩, hb3⟩ := he
          have hd3 := (hb3.block (wA.heap.size) (by omega)).trans hd1
          refine ⟨(hb3.block _ hz1).trans hl1, ?_⟩
          refine ⟨by simp, .inl ⟨_, _, rfl, run_takeDeferred ((World.putObj_heap_other (by omega)).trans hd3), ?_⟩⟩
          refine ⟨_, results_none rfl _ _ _, ?_⟩
          refine HRP.out _ _ ⟨?_, ?_⟩
          · exact (((hbW.trans (hb3.mono hbW.size)).past (by omega)).past hwA)
          · rw [hr]; exact ⟨_, rfl⟩
        | some y =>
          rw [hr] at he
          obtain ⟨rfl, hf⟩ := he
          have hd3 := (hf.2 wA.heap.size (by omega) (by omega)).trans hd1
          refine ⟨by simp, .inl ⟨_, _, rfl, run_takeDeferred hd3, ?_⟩⟩
          refine HRP.out _ _ ⟨?_, ?_⟩
          · exact (hbW.trans (hf.1.mono (by omega))).past hwA
          · rw [hr]; rfl

end Go.Proofs.YtmmgkdcojkmlcaaGreatDoor

namespace Go.Proofs.YtmmgkdcojkmlcaaGreatDoor
open Go.RowKit Go.Shelf

set_option maxRecDepth 100000 in
set_option maxHeartbeats 1000000 in
theorem same1_any (F : Nat) (g : FnT) (nm : List UInt8) (a2 : Option Addr) (c b : Nat) (W : World) (hF : W.cell? ⟨F, 0, none⟩ = some (.string (bs nm))) :
    Calls Tryz.prog 58 #[.agg #[.string (bs g.name), .int .i64 (g.at' : Int), .slice a2 g.more.length c, .pointer (some ⟨b, 0, none⟩)], .pointer (some ⟨F, 0, none⟩)] W fun e w' => e = .returned (.bool (g.name == nm)) ∧ Below W.heap.size W w' := by
  have h1 := bs_list g.name
  have h2 := bs_list nm
  have hlt := World.block_lt_of_cell? _ _ hF
  have hF2 : (W.alloc (.cells #[.string (bs g.name), .int .i64 (g.at' : Int), .slice a2 g.more.length c, .pointer (some ⟨b, 0, none⟩)] 72)).cell? ⟨F, 0, none⟩ = some (.string (bs nm)) := (((Below.refl _ W).alloc (Nat.le_refl _) _).cell (p := ⟨F, 0, none⟩) hlt).trans hF
  have HB : Hid (Below W.heap.size W (W.alloc (.cells #[.string (bs g.name), .int .i64 (g.at' : Int), .slice a2 g.more.length c, .pointer (some ⟨b, 0, none⟩)] 72))) := (Below.refl _ W).alloc (Nat.le_refl _) _
  by_cases hx : g.name = nm
  · have t1 : (g.name == nm) = true := by simpa using hx
    rw [t1]
    clear hx
    go_enter Tryz.func58, Tryz.ntmps58
    go_wp2_with fail
    go_ret
    exact ⟨rfl, HB.out⟩
  · have t1 : (g.name == nm) = false := by simpa using hx
    rw [t1]
    clear hx
    go_enter Tryz.func58, Tryz.ntmps58
    go_wp2_with fail
    go_ret
    exact ⟨rfl, HB.out⟩

/-- the word main -/
def mainW : List UInt8 := [109, 97, 105, 110]
set_option maxRecDepth 100000 in
set_option maxHeartbeats 1000000 in
theorem isMain_any (g : FnT) (a2 : Option Addr) (c b : Nat) (W : World) :
    Calls Tryz.prog 60 #[.agg #[.string (bs g.name), .int .i64 (g.at' : Int), .slice a2 g.more.length c, .pointer (some ⟨b, 0, none⟩)]] W fun e w' => e = .returned (.bool (g.name == mainW)) ∧ Below W.heap.size W w' := by
  have h1 := bs_list g.name
  have h2 : (⟨#[109, 97, 105, 110]⟩ : ByteArray).toList = mainW := by kernel_rfl
  have HB : Hid (Below W.heap.size W (W.alloc (.cells #[.string (bs g.name), .int .i64 (g.at' : Int), .slice a2 g.more.length c, .pointer (some ⟨b, 0, none⟩)] 72))) := (Below.refl _ W).alloc (Nat.le_refl _) _
  generalize mainW = nm at *
  by_cases hx : g.name = nm
  · have t1 : (g.name == nm) = true := by simpa using hx
    rw [t1]
    clear hx
    go_enter Tryz.func60, Tryz.ntmps60
    go_wp2_with fail
    go_ret
    exact ⟨rfl, HB.out⟩
  · have t1 : (g.name == nm) = false := by simpa using hx
    rw [t1]
    clear hx
    go_enter Tryz.func60, Tryz.ntmps60
    go_wp2_with fail
    go_ret
    exact ⟨rfl, HB.out⟩

set_option maxRecDepth 100000 in
set_option maxHeartbeats 1000000 in
theorem indexF_any (F cap n : Nat) (caps : Array Value) (a : Option Addr) (fs : List FnT) (p : FnT → Bool) (w : World) (hn : n ≤ fs.length) (hlen : fs.length ≤ 4000) (hl : FnR 0 w a fs)
    (hcf : ∀ (args : Array Value) (w1 : World), (callFunc F args).run Tryz.prog w1 = .ok (.enter F args) w1)
    (HC : ∀ (W : World) (g : FnT) (a2 : Option Addr) (c b : Nat), Below w.heap.size w W → Calls Tryz.prog F (#[.agg #[.string (bs g.name), .int .i64 (g.at' : Int), .slice a2 g.more.length c, .pointer (some ⟨b, 0, none⟩)]] ++ caps) W fun e w' => e = .returned (.bool (p g)) ∧ Below W.heap.size W w') :
    Calls Tryz.prog 82 #[.slice a n cap, .func (.func F) #[] caps] w fun e w' => (∃ r : Int, e = .returned (.int .i64 r) ∧ decide (0 ≤ r) = (fs.take n).any p) ∧ Below w.heap.size w w' := by
  have HL := hid hl
  have HE1 := hid HC
  have HN := hid hn
  have HLN := hid hlen
  have hn2 : n ≤ 4000 := by omega
  clear hl HC hn hlen
  go_enter Tryz.func82, Tryz.ntmps82
  go_wp2_with fail
  go_loopw [8] (fun iv wr => ∃ k : Nat, k ≤ n ∧ iv = .int .i64 k ∧ Hid ((∀ j g, j < k → fs[j]? = some g → p g = false) ∧ Below w.heap.size w wr)) (fun iv _ => n - (intOf iv).toNat)
  case atStart => exact ⟨0, by omega, rfl, fun j _ hj => by omega, Below.refl _ _⟩
  case round =>
    obtain ⟨k, hk, rfl, hI⟩ := hrel
    by_cases hlt : k < n
    · have hlt2 : (k : Int) < (n : Int) := by omega
      have hks : IntKind.i64.wrap ((k : Int) + 1) = (k : Int) + 1 := by rw [IntKind.wrap_i64]; omega
      obtain ⟨g, hg⟩ : ∃ g, fs[k]? = some g := ⟨_, List.getElem?_eq_getElem (by have := HN.out; omega)⟩
      obtain ⟨kb, a2, c, b, rfl, _, d0, d1, d2, d3, _⟩ := HL.out k g hg
      have c0 := (hI.out.2.cell (p := ⟨kb, k * 4, none⟩) (World.block_lt_of_cell? _ _ d0)).trans d0
      have c1 := (hI.out.2.cell (p := ⟨kb, k * 4 + 1, none⟩) (World.block_lt_of_cell? _ _ d1)).trans d1
      have c2 := (hI.out.2.cell (p := ⟨kb, k * 4 + 2, none⟩) (World.block_lt_of_cell? _ _ d2)).trans d2
      have c3 := (hI.out.2.cell (p := ⟨kb, k * 4 + 3, none⟩) (World.block_lt_of_cell? _ _ d3)).trans d3
      have HX := HE1.out wr g a2 c b hI.out.2
      have HBI := hid hI.out.2
      clear d0 d1 d2 d3
      cases hb : p g with
      | false =>
        rw [hb] at HX
        have HXX := hid HX
        have HE : Hid (∀ j g, j < k + 1 → fs[j]? = some g → p g = false) := fun j g' hj hj2 => by
          by_cases e : j = k
          · rw [e, hg] at hj2; injection hj2 with hj2; rw [← hj2]; exact hb
          · exact hI.out.1 j g' (by omega) hj2
        clear hI HX hb hg
        go_wp2_with fail
        refine HXX.out.mono ?_
        rintro e w1 ⟨rfl, hb1⟩
        have HB1 := hid (HBI.out.trans (hb1.mono HBI.out.size))
        clear hb1
        go_wp2_with fail
        go_roundw
        case rel => exact ⟨k + 1, by omega, by go_num, HE, HB1.out⟩
        case measure => simp [intOf]; omega
      | true =>
        rw [hb] at HX
        have HXX := hid HX
        have HE : Hid ((fs.take n).any p = true) := List.any_eq_true.2 ⟨g, List.mem_of_getElem? (i := k) (by rw [List.getElem?_take_of_lt hlt]; exact hg), hb⟩
        clear hI HX hb hg
        go_wp2_with fail
        refine HXX.out.mono ?_
        rintro e w1 ⟨rfl, hb1⟩
        have HB1 := hid (HBI.out.trans (hb1.mono HBI.out.size))
        clear hb1
        go_wp2_with fail
        go_ret
        refine ⟨⟨(k : Int), rfl, ?_⟩, HB1.out⟩
        rw [HE.out]
        simp
    · obtain rfl : k = n := by omega
      have hlt2 : ¬ (k : Int) < (k : Int) := by omega
      have HE : Hid ((fs.take k).any p = false) := by
        unfold Hid
        rw [List.any_eq_false]
        intro x hx
        obtain ⟨j, hj⟩ := List.mem_iff_getElem?.1 hx
        have hjk : j < k := by
          rcases Nat.lt_or_ge j k with h | h
          · exact h
          · rw [List.getElem?_eq_none (by rw [List.length_take]; omega)] at hj; cases hj
        rw [List.getElem?_take_of_lt hjk] at hj
        simp [hI.out.1 j x hjk hj]
      have HBI := hid hI.out.2
      clear hI
      go_wp2_with fail
      go_ret
      refine ⟨⟨-1, rfl, ?_⟩, HBI.out⟩
      rw [HE.out]
      simp

set_option maxRecDepth 100000 in
theorem containsF_any (F cap n : Nat) (caps : Array Value) (a : Option Addr) (fs : List FnT) (p : FnT → Bool) (w : World) (hn : n ≤ fs.length) (hlen : fs.length ≤ 4000) (hl : FnR 0 w a fs)
    (hcf : ∀ (args : Array Value) (w1 : World), (callFunc F args).run Tryz.prog w1 = .ok (.enter F args) w1)
    (HC : ∀ (W : World) (g : FnT) (a2 : Option Addr) (c b : Nat), Below w.heap.size w W → Calls Tryz.prog F (#[.agg #[.string (bs g.name), .int .i64 (g.at' : Int), .slice a2 g.more.length c, .pointer (some ⟨b, 0, none⟩)]] ++ caps) W fun e w' => e = .returned (.bool (p g)) ∧ Below W.heap.size W w') :
    Calls Tryz.prog 57 #[.slice a n cap, .func (.func F) #[] caps] w fun e w' => e = .returned (.bool ((fs.take n).any p)) ∧ Below w.heap.size w w' := by
  have HI := hid (indexF_any F cap n caps a fs p w hn hlen hl hcf HC)
  clear hl hcf HC hn hlen
  generalize (fs.take n).any p = E at *
  go_enter Tryz.func57, Tryz.ntmps57
  go_wp2_with fail
  refine HI.out.mono ?_
  rintro e w1 ⟨⟨r, rfl, hr⟩, hb⟩
  have HRR := hid hr
  have HB := hid hb
  clear hr HI hb
  go_wp2_with fail
  go_ret
  exact ⟨by rw [← HRR.out]; rfl, HB.out⟩

end Go.Proofs.YtmmgkdcojkmlcaaGreatDoor

namespace Go.Proofs.YtmmgkdcojkmlcaaGreatDoor
open Go.RowKit Go.Shelf

/-- functions by what a call asks of them -/
def sgF (fs : List FnT) (nm : List UInt8) (n : Nat) : Bool := fs.any (fun g => g.name == nm && g.more.length == n)
/-- the first fault of the names of functions, from the i-th on -/
def ckl (fs : List FnT) : List FnT → Nat → Option (Nat × Nat)
  | [], _ => none
  | g :: r, i => if (fs.take i).any (fun h => h.name == g.name) then some (4, g.at') else match ckw (sgF fs) g with
    | some e => some e
    | none => ckl fs r (i + 1)
/-- the first fault of the names of a text of so many bytes -/
def ckn (fs : List FnT) (len : Nat) : Option (Nat × Nat) := match ckl fs fs 0 with
  | some e => some e
  | none => if fs.any (fun h => h.name == mainW) then none else some (6, len)
/-- names and parts of a function that are few enough -/
def FOk (g : FnT) : Prop := g.name.length ≤ 4000 ∧ g.more.length ≤ 4000 ∧ (∀ x, x ∈ g.more → x.1.length ≤ 4000) ∧ TOk g.body
theorem gb_belS {N B : Nat} {w W W' : World} (h : Below N w W) (g : W.grownBy W' (some B)) (hB : N ≤ B) (hN : w.heap.size = N) : Below N w W' :=
  ⟨g.os.trans h.os, g.tape.trans h.tape, g.output.trans h.output, Nat.le_trans h.size g.size, fun k hk => (g.block k (by have := h.size; omega) (fun e => by injection e; omega)).trans (h.block k hk)⟩
theorem FnR.below {lo : Nat} {w w' : World} {a : Option Addr} {fs : List FnT} (h : FnR lo w a fs) (g : Below w.heap.size w w') : FnR lo w' a fs := fun i x hx => by
  obtain ⟨k, a2, c, b, h1, h2, h3, h4, h5, h6, h7, h8⟩ := h i x hx
  exact ⟨k, a2, c, b, h1, h2, (g.cell (p := ⟨k, i * 4, none⟩) (World.block_lt_of_cell? _ _ h3)).trans h3, (g.cell (p := ⟨k, i * 4 + 1, none⟩) (World.block_lt_of_cell? _ _ h4)).trans h4, (g.cell (p := ⟨k, i * 4 + 2, none⟩) (World.block_lt_of_cell? _ _ h5)).trans h5, (g.cell (p := ⟨k, i * 4 + 3, none⟩) (World.block_lt_of_cell? _ _ h6)).trans h6, NmB.keep h7 (fun b hb hl => ⟨hb, g.block b hl⟩), h8.below g⟩

set_option maxRecDepth 100000 in
set_option maxHeartbeats 4000000 in
theorem checkNames_any (T : ByteArray) (fs : List FnT) (a : Option Addr) (c : Nat) (w : World) (hl : FnR 0 w a fs) (hcap : fs.length ≤ c) (hlen : fs.length ≤ 4000) (hok : ∀ g, g ∈ fs → FOk g) (hT : T.size ≤ 4000) :
    Calls Tryz.prog 35 #[.string T, .slice a fs.length c] w fun e w' => Below w.heap.size w w' ∧ match ckn fs T.size with
      | none => ∃ v, e = .returned v
      | some y => e = pncF y.2 y.1 := by
  have hnot : ∀ (x : Bool) (w : World), (Op.unary .not (.bool x)).run Tryz.prog w = .ok (.bool (!x)) w := fun _ _ => rfl
  obtain ⟨res, hres⟩ : ∃ res, Hid (res = ckn fs T.size) := ⟨_, rfl⟩
  rw [← hres.out]
  obtain ⟨R, hR⟩ : ∃ R : Ending → World → Prop, R = (fun e w' => Below w.heap.size w w' ∧ match res with
      | none => ∃ v, e = .returned v
      | some y => e = pncF y.2 y.1) := ⟨_, rfl⟩
  rw [← hR]
  have HRP : Hid (∀ e w', (Below w.heap.size w w' ∧ match res with
      | none => ∃ v, e = .returned v
      | some y => e = pncF y.2 y.1) → R e w') := by unfold Hid; rw [hR]; exact fun _ _ h => h
  obtain ⟨n, hn⟩ : ∃ n, n = fs.length := ⟨_, rfl⟩
  have HN := hid hn
  rw [← hn]
  rw [← hn] at hcap
  have HL := hid hl
  have HOK := hid hok
  have hn4 : n ≤ 4000 := by omega
  have HT := hid hT
  clear hR hl hlen hok hT hn
  have hmm := @run_makeMap Tryz.prog
  go_enter Tryz.func35, Tryz.ntmps35
  go_wp2_with fail
  have HM0 : Hid (MapI sgk sgo (w.alloc (.map #[] 0)) w.heap.size (fun _ => none)) := MapI.new w
  have HB0 : Hid (Below w.heap.size w (w.alloc (.map #[] 0))) := (Below.refl _ w).alloc (Nat.le_refl _) _
  generalize w.alloc (.map #[] 0) = W0 at *
  go_loopw [12] (fun iv wr => ∃ (k : Nat) (M : List UInt8 × Nat → Option Int), k ≤ n ∧ iv = .int .i64 k ∧ Hid (MapI sgk sgo wr w.heap.size M) ∧ Hid (∀ x, (M x).isSome = sgF (fs.take k) x.1 x.2) ∧ Hid (Below w.heap.size w wr)) (fun iv _ => n - (intOf iv).toNat)
  case atStart => exact ⟨0, _, Nat.zero_le _, rfl, HM0, fun _ => rfl, HB0⟩
  case round =>
    obtain ⟨k, M, hk, rfl, hM, hMs, hbel⟩ := hrel
    by_cases hlt : k < n
    · have hlt2 : (k : Int) < (n : Int) := by omega
      have hks : IntKind.i64.wrap ((k : Int) + 1) = (k : Int) + 1 := by rw [IntKind.wrap_i64]; omega
      obtain ⟨g, hg⟩ : ∃ g, fs[k]? = some g := ⟨_, List.getElem?_eq_getElem (by have := HN.out; omega)⟩
      obtain ⟨kb, a2, c2, b, rfl, _, d0, d1, d2, d3, _⟩ := HL.out k g hg
      have c0 := (hbel.out.cell (p := ⟨kb, k * 4, none⟩) (World.block_lt_of_cell? _ _ d0)).trans d0
      have c1 := (hbel.out.cell (p := ⟨kb, k * 4 + 1, none⟩) (World.block_lt_of_cell? _ _ d1)).trans d1
      have c2' := (hbel.out.cell (p := ⟨kb, k * 4 + 2, none⟩) (World.block_lt_of_cell? _ _ d2)).trans d2
      have c3 := (hbel.out.cell (p := ⟨kb, k * 4 + 3, none⟩) (World.block_lt_of_cell? _ _ d3)).trans d3
      have HFO := hid (HOK.out g (List.mem_of_getElem? hg))
      have HG := hid hg
      clear d0 d1 d2 d3 hg
      go_wp2_with (refine wpList_updateI sigK _ rfl _ _ _ rfl w.heap.size M rfl ?_ (g.name, g.more.length) (k : Int) rfl rfl ⟨HFO.out.1, HFO.out.2.1⟩ ?_)
      · exact hM.out.below ((Below.refl _ wr).alloc (Nat.le_refl _) _)
      · intro w' hM' hgb
        have HM' := hid hM'
        have HB' : Hid (Below w.heap.size w w') := gb_belS (hbel.out.trans (((Below.refl _ wr).alloc (Nat.le_refl _) _).mono hbel.out.size)) hgb (Nat.le_refl _) rfl
        have HMS : Hid (∀ x, (updI M (g.name, g.more.length) (k : Int) x).isSome = sgF (fs.take (k + 1)) x.1 x.2) := fun x => by
          have h1 := hMs.out x
          unfold sgF at h1 ⊢
          rw [List.take_add_one, HG.out, List.any_append, ← h1]
          unfold updI
          by_cases e : x = (g.name, g.more.length)
          · rw [if_pos e, e]; simp
          · rw [if_neg e]
            have : (g.name == x.1 && g.more.length == x.2) = false := by
              cases hh : (g.name == x.1 && g.more.length == x.2) with
              | false => rfl
              | true =>
                simp at hh
                exact absurd (Prod.ext hh.1.symm hh.2.symm) e
            simp [this]
        clear hM' hgb hM hMs hbel c0 c1 c2' c3
        go_wp2_with fail
        go_roundw
        case rel => exact ⟨k + 1, _, by omega, by go_num, HM', HMS, HB'⟩
        case measure => simp [intOf]; omega
    · obtain rfl : k = n := by omega
      have hlt2 : ¬ (k : Int) < (k : Int) := by omega
      have HMS : Hid (∀ x, sgo x → (M x).isSome = sgF fs x.1 x.2) := fun x _ => by
        have h1 := hMs.out x
        rwa [HN.out, List.take_length] at h1
      have HL2 := hid (HL.out.below hbel.out)
      clear hMs HL
      obtain ⟨WL, rfl⟩ : ∃ WL, WL = wr := ⟨_, rfl⟩
      go_wp2_with fail
      go_loopw [29] (fun iv wq => ∃ (j : Nat), j ≤ k ∧ iv = .int .i64 j ∧ Hid (ckl fs fs 0 = ckl fs (fs.drop j) j) ∧ Hid (Below WL.heap.size WL wq)) (fun iv _ => k - (intOf iv).toNat)
      case atStart => exact ⟨0, Nat.zero_le _, rfl, rfl, Below.refl _ _⟩
      case round =>
        obtain ⟨j, hj, rfl, hck, hbq⟩ := hrel
        have HBW := hid (hbel.out.trans (hbq.out.mono hbel.out.size))
        by_cases hlj : j < k
        · have hlj2 : (j : Int) < (k : Int) := by omega
          have hks : IntKind.i64.wrap ((j : Int) + 1) = (j : Int) + 1 := by rw [IntKind.wrap_i64]; omega
          obtain ⟨g, hg⟩ : ∃ g, fs[j]? = some g := ⟨_, List.getElem?_eq_getElem (by have := HN.out; omega)⟩
          have HG := hid hg
          obtain ⟨kb, a2, c2, b, rfl, _, d0, d1, d2, d3, d4, d5⟩ := HL2.out j g hg
          have c0 := (hbq.out.cell (p := ⟨kb, j * 4, none⟩) (World.block_lt_of_cell? _ _ d0)).trans d0
          have c1 := (hbq.out.cell (p := ⟨kb, j * 4 + 1, none⟩) (World.block_lt_of_cell? _ _ d1)).trans d1
          have c2' := (hbq.out.cell (p := ⟨kb, j * 4 + 2, none⟩) (World.block_lt_of_cell? _ _ d2)).trans d2
          have c3 := (hbq.out.cell (p := ⟨kb, j * 4 + 3, none⟩) (World.block_lt_of_cell? _ _ d3)).trans d3
          have HFO := hid (HOK.out g (List.mem_of_getElem? hg))
          have HND := hid d4
          have HPD := hid d5
          have hck2 := hck.out
          rw [List.drop_eq_getElem_cons (by have := HN.out; omega), show fs[j]'(by have := HN.out; omega) = g from Option.some.inj ((List.getElem?_eq_getElem _).symm.trans hg), ckl] at hck2
          have HCK := hid hck2
          clear d0 d1 d2 d3 d4 d5 hg hck hck2
          go_wp2_with fail
          have hbA : Below wr.heap.size wr (wr.alloc (.cells #[.string (bs g.name), .int .i64 (g.at' : Int), .slice a2 g.more.length c2, .pointer (some ⟨b, 0, none⟩)] 72)) := (Below.refl _ _).alloc (Nat.le_refl _) _
          have HF : Hid (∀ i v, [Value.string (bs g.name), .int .i64 (g.at' : Int), .slice a2 g.more.length c2, .pointer (some ⟨b, 0, none⟩)][i]? = some v → (wr.alloc (.cells #[.string (bs g.name), .int .i64 (g.at' : Int), .slice a2 g.more.length c2, .pointer (some ⟨b, 0, none⟩)] 72)).cell? ⟨wr.heap.size, i, none⟩ = some v) := fun i v hi => by
            have := cell_four_new wr _ _ _ _ 72 i v hi
            rwa [show (⟨wr.heap.size, 0, none⟩ : Addr).add i = ⟨wr.heap.size, i, none⟩ by unfold Addr.add; split <;> simp_all] at this
          have HBQ := hid (hbq.out.trans (hbA.mono hbq.out.size))
          have hzA : wr.heap.size < (wr.alloc (.cells #[.string (bs g.name), .int .i64 (g.at' : Int), .slice a2 g.more.length c2, .pointer (some ⟨b, 0, none⟩)] 72)).heap.size := by simp
          have HCO := hid (containsF_any 58 c j #[.pointer (some ⟨wr.heap.size, 0, none⟩)] (some ⟨kb, 0, none⟩) fs (fun h => h.name == g.name) (wr.alloc (.cells #[.string (bs g.name), .int .i64 (g.at' : Int), .slice a2 g.more.length c2, .pointer (some ⟨b, 0, none⟩)] 72))
            (by have := HN.out; omega) (by have := HN.out; omega) (HL2.out.below HBQ.out) (entersF Tryz.func58 (by kernel_rfl) (by kernel_rfl))
            (fun W g' a' c' b' hW => same1_any wr.heap.size g' g.name a' c' b' W ((hW.cell (p := ⟨wr.heap.size, 0, none⟩) hzA).trans (HF.out 0 _ rfl))))
          clear hbA c0 c1 c2' c3 hbq HBW
          generalize wr.alloc (.cells #[.string (bs g.name), .int .i64 (g.at' : Int), .slice a2 g.more.length c2, .pointer (some ⟨b, 0, none⟩)] 72) = wA at *
          refine HCO.out.mono ?_
          rintro e wB ⟨rfl, hbB⟩
          have HBB := hid (HBQ.out.trans (hbB.mono HBQ.out.size))
          have f0 := (hbB.cell (p := ⟨wr.heap.size, 0, none⟩) hzA).trans (HF.out 0 _ rfl)
          have f1 := (hbB.cell (p := ⟨wr.heap.size, 1, none⟩) hzA).trans (HF.out 1 _ rfl)
          have f2 := (hbB.cell (p := ⟨wr.heap.size, 2, none⟩) hzA).trans (HF.out 2 _ rfl)
          have f3 := (hbB.cell (p := ⟨wr.heap.size, 3, none⟩) hzA).trans (HF.out 3 _ rfl)
          have HBW := hid (hbel.out.trans (HBB.out.mono hbel.out.size))
          clear hbB HCO HF HBQ hzA
          cases hE : (fs.take j).any (fun h => h.name == g.name) with
          | true =>
            have hre : res = some (4, g.at') := by
              have h1 := HCK.out
              rw [if_pos hE] at h1
              rw [hres.out]
              unfold ckn
              rw [h1]
            subst hre
            clear hE HCK
            go_wp2_with fail
            exact ⟨rfl, HRP.out _ _ ⟨HBW.out, rfl⟩⟩
          | false =>
            have h1 := HCK.out
            rw [if_neg (by simp [hE])] at h1
            have HC2 := hid h1
            have HCW := hid (checkWithin_any (sgF fs) w.heap.size g a2 c2 b M wB (NmB.keep (B := fun x => 0 ≤ x) (B' := fun x => 0 ≤ x) HND.out (fun x hx hl => ⟨hx, HBB.out.block x hl⟩)) (HPD.out.below HBB.out) HFO.out.2.2.2 HFO.out.2.1 HFO.out.2.2.1 (hM.out.below HBB.out) HMS.out)
            clear hE HCK h1
            cases hcw : ckw (sgF fs) g with
            | none =>
              rw [hcw] at HC2 HCW
              clear hcw
              go_wp2_with fail
              refine HCW.out.mono ?_
              rintro e wC ⟨hbC, v, rfl⟩
              have HBC := hid (HBB.out.trans (hbC.mono HBB.out.size))
              clear hbC HCW
              go_wp2_with fail
              go_roundw
              case rel => exact ⟨j + 1, by omega, by go_num, HC2, HBC⟩
              case measure => simp [intOf]; omega
            | some y =>
              rw [hcw] at HC2 HCW
              have hre : res = some y := by
                rw [hres.out]
                unfold ckn
                rw [HC2.out]
              subst hre
              clear hcw
              go_wp2_with fail
              refine HCW.out.mono ?_
              rintro e wC ⟨hbC, rfl⟩
              exact ⟨rfl, HRP.out _ _ ⟨HBW.out.trans (hbC.mono HBW.out.size), rfl⟩⟩
        · obtain rfl : j = k := by omega
          have hlj2 : ¬ (j : Int) < (j : Int) := by omega
          have hck2 := hck.out
          rw [HN.out, List.drop_length, ckl] at hck2
          have HCO := hid (containsF_any 60 c j #[] a fs (fun h => h.name == mainW) wr (by have := HN.out; omega) (by have := HN.out; omega) (HL2.out.below hbq.out) (entersF Tryz.func60 (by kernel_rfl) (by kernel_rfl)) (fun W g' a' c' b' _ => isMain_any g' a' c' b' W))
          have hE : (fs.take j).any (fun h => h.name == mainW) = fs.any (fun h => h.name == mainW) := by rw [HN.out, List.take_length]
          rw [hE] at HCO
          have HRE : Hid (res = if fs.any (fun h => h.name == mainW) then none else some (6, T.size)) := by
            unfold Hid
            rw [hres.out]
            unfold ckn
            rw [hck2]
          clear hE hck hck2 hbq
          generalize fs.any (fun h => h.name == mainW) = E at *
          go_wp2_with fail
          refine HCO.out.mono ?_
          rintro e wC ⟨rfl, hbC⟩
          have HBC := hid (HBW.out.trans (hbC.mono HBW.out.size))
          clear hbC HCO
          cases E with
          | true =>
            have hre := HRE.out
            simp at hre
            subst hre
            clear HRE
            go_wp2_with fail
            go_end0
            exact HRP.out _ _ ⟨HBC.out, _, rfl⟩
          | false =>
            have hre := HRE.out
            simp at hre
            subst hre
            clear HRE
            go_wp2_with fail
            exact ⟨rfl, HRP.out _ _ ⟨HBC.out, rfl⟩⟩

end Go.Proofs.YtmmgkdcojkmlcaaGreatDoor
