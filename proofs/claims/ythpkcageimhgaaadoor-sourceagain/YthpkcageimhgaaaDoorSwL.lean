/- Package source: how many parts a program has. -/
import Derived.Test.YthpkcageimhgaaaDoorSwK
import Derived.Test.YthpkcageimhgaaaDoorSqAM
import Derived.Test.YthpkcageimhgaaaDoorPrU
namespace Go.Proofs.YthpkcageimhgaaaDoor
open Go.RowKit Go.Shelf

attribute [local go_sem] Oper.semAt_some

/-- marks of loops over functions: nothing was deferred in them -/
def Mks (lo : Nat) : List Deferred → World → Prop
  | [], _ => True
  | d :: ds, W => (∃ k, d = { target := .collected k, args := #[] } ∧ lo ≤ k ∧ W.heap[k]? = some (.deferred (some [])) ∧ ∀ e, e ∈ ds → e ≠ d) ∧ Mks lo ds W
theorem Mks.keep {lo : Nat} : ∀ {ds : List Deferred} {W W' : World}, Mks lo ds W → (∀ k, W.heap[k]? = some (.deferred (some [])) → ({ target := .collected k, args := #[] } : Deferred) ∈ ds → W'.heap[k]? = W.heap[k]?) → Mks lo ds W'
  | [], _, _, _, _ => trivial
  | d :: ds, W, W', h, hk => by
    obtain ⟨⟨k, rfl, h1, h2, h3⟩, h4⟩ := h
    exact ⟨⟨k, rfl, h1, (hk k h2 List.mem_cons_self).trans h2, h3⟩, h4.keep fun j hj hm => hk j hj (List.mem_cons_of_mem _ hm)⟩
theorem mks_leave {lo n : Nat} {P : Program} {fn : Func} {tmps : Array Value} {R : Ending → World → Prop} : ∀ (ds : List Deferred) (W : World), Mks lo ds W → (∀ W', Below lo W W' → ∃ v, (results fn tmps).run P W' = .ok v W' ∧ R (.returned v) W') → LeavesInM Fence.wide n P fn tmps R ds .returning W
  | [], W, _, h => by
    obtain ⟨v, h1, h2⟩ := h W (Below.refl _ _)
    exact ⟨v, h1, h2⟩
  | d :: ds, W, hm, h => by
    obtain ⟨⟨k, rfl, h1, h2, h3⟩, h4⟩ := hm
    refine ⟨by simp, .inl ⟨k, _, rfl, run_takeDeferred h2, ?_⟩⟩
    refine mks_leave ds _ (h4.keep fun j hj hmem => World.putObj_heap_other (fun e => ?_)) (fun W' hW' => h W' (((Below.refl _ W).past h1).trans hW'))
    subst e
    exact h3 _ hmem rfl

theorem Mks.lt {lo : Nat} : ∀ {ds : List Deferred} {W : World}, Mks lo ds W → ∀ e, e ∈ ds → ∃ k, e = { target := .collected k, args := #[] } ∧ k < W.heap.size
  | [], _, _, e, h => by cases h
  | d :: ds, W, h, e, he => by
    obtain ⟨⟨k, rfl, h1, h2, h3⟩, h4⟩ := h
    rcases List.mem_cons.1 he with rfl | he
    · exact ⟨k, rfl, (Array.getElem?_eq_some_iff.1 h2).1⟩
    · exact h4.lt e he
/-- a number, as an int holds it -/
def wpn (x : Nat) : Int := IntKind.i64.wrap (x : Int)
theorem wpn_step (x : Nat) : IntKind.i64.wrap (wpn x + 1) = wpn (x + 1) := by unfold wpn; rw [IntKind.wrap_i64, IntKind.wrap_i64, IntKind.wrap_i64]; omega
theorem wpn_small {x : Nat} (h : x ≤ 1000000) : wpn x = (x : Int) := by unfold wpn; rw [IntKind.wrap_i64]; omega
/-- what a round over a function keeps: the box of the weight, the loop's record, the marks -/
structure WJ (wb l : Nat) (rec : Loop) (ds : List Deferred) (A : Nat) (w : World) (j : Nat) (W : World) : Prop where
  bel : Below wb w W
  ge : wb < l
  box : W.heap[wb]? = some (.cells #[.int .i64 (wpn (A + j))] 3 (0, 0))
  lp : W.heap[l]? = some (.loop rec)
  mrk : Mks wb ds W
theorem heap_lt2 {W : World} {k : Nat} {o : Obj} (h : W.heap[k]? = some o) : k < W.heap.size := (Array.getElem?_eq_some_iff.1 h).1
/-- a block that was there before (the library has two laws of one name) -/
theorem heap_oldM (W : World) (o : Obj) (k : Nat) (h : k < W.heap.size) : (W.alloc o).heap[k]? = W.heap[k]? :=
  (((Below.refl W.heap.size W).alloc (Nat.le_refl _) o).block k h)
theorem WJ.alloc {wb l : Nat} {rec : Loop} {ds : List Deferred} {A j : Nat} {w W : World} (h : WJ wb l rec ds A w j W) (o : Obj) : WJ wb l rec ds A w j (W.alloc o) :=
  ⟨h.bel.alloc (Nat.le_of_lt (heap_lt2 h.box)) o, h.ge, (heap_oldM W o wb (heap_lt2 h.box)).trans h.box, (heap_oldM W o l (heap_lt2 h.lp)).trans h.lp, h.mrk.keep fun k hk _ => heap_oldM W o k (heap_lt2 hk)⟩
theorem WJ.step {wb l : Nat} {rec r' : Loop} {ds : List Deferred} {A j : Nat} {w W : World} (h : WJ wb l rec ds A w j W) : WJ wb l rec ds A w (j + 1) (((W.putObj l (.loop r')).setCell ⟨wb, 0, none⟩ (.int .i64 (wpn (A + (j + 1))))).putObj l (.loop rec)) := by
  have hne : wb ≠ l := by have := h.ge; omega
  have hlt := heap_lt2 h.lp
  have hbx : (W.putObj l (.loop r')).heap[wb]? = some (.cells #[.int .i64 (wpn (A + j))] 3 (0, 0)) := (World.putObj_heap_other hne).trans h.box
  have hset : ((W.putObj l (.loop r')).setCell ⟨wb, 0, none⟩ (.int .i64 (wpn (A + (j + 1))))).heap[wb]? = some (.cells #[.int .i64 (wpn (A + (j + 1)))] 3 (0, 0)) := by
    simp [World.setCell, Array.getElem?_modify, hbx]
  have hoth : ∀ k, k ≠ wb → k ≠ l → (((W.putObj l (.loop r')).setCell ⟨wb, 0, none⟩ (.int .i64 (wpn (A + (j + 1))))).putObj l (.loop rec)).heap[k]? = W.heap[k]? := fun k h1 h2 =>
    (World.putObj_heap_other h2).trans ((Below.heap_setCell _ _ _ _ h1).trans (World.putObj_heap_other h2))
  have hsz : ((W.putObj l (.loop r')).setCell ⟨wb, 0, none⟩ (.int .i64 (wpn (A + (j + 1))))).heap.size = W.heap.size := by simp [World.setCell, World.putObj]
  refine ⟨⟨h.bel.os, h.bel.tape, h.bel.output, by have := h.bel.size; simpa [World.putObj, World.setCell] using this, fun k hk => (hoth k (by omega) (by have := h.ge; omega)).trans (h.bel.block k hk)⟩, h.ge, (World.putObj_heap_other hne).trans hset, World.putObj_heap_same (by rw [hsz]; exact hlt), ?_⟩
  exact h.mrk.keep fun k hk _ => hoth k (fun e => by rw [e, h.box] at hk; cases hk) (fun e => by rw [e, h.lp] at hk; cases hk)
theorem WJ.shut {wb l : Nat} {rec r' : Loop} {ds : List Deferred} {A j : Nat} {w W : World} (h : WJ wb l rec ds A w j W) : Below wb w (W.putObj l (.loop r')) ∧ (W.putObj l (.loop r')).heap[wb]? = some (.cells #[.int .i64 (wpn (A + j))] 3 (0, 0)) ∧ Mks wb ds (W.putObj l (.loop r')) := by
  have hne : wb ≠ l := by have := h.ge; omega
  refine ⟨h.bel.past (Nat.le_of_lt h.ge), (World.putObj_heap_other hne).trans h.box, h.mrk.keep fun k hk _ => World.putObj_heap_other (fun e => by rw [e, h.lp] at hk; cases hk)⟩
/-- what the loop over the functions keeps -/
structure WI (wb : Nat) (ds : List Deferred) (A : Nat) (w W : World) : Prop where
  bel : Below wb w W
  box : W.heap[wb]? = some (.cells #[.int .i64 ((A : Nat) : Int)] 3 (0, 0))
  mrk : Mks wb ds W

set_option maxRecDepth 100000 in
set_option maxHeartbeats 4000000 in
theorem pweight_any (lo p : Nat) (fs : List FnT) (w : World) (hP : PgAt lo w p fs) (hW : ∀ g, g ∈ fs → FW g) (hl4 : fs.length ≤ 4000) (hp : pwgt fs ≤ 1000000) :
    Calls Tryd.prog 6 #[.pointer (some ⟨p, 0, none⟩)] w fun e w' => e = .returned (.int .i64 ((pwgt fs : Nat) : Int)) ∧ Below w.heap.size w w' := by
  obtain ⟨a, c, B, hpp, _, _, hcc, hF, _⟩ := hP
  obtain ⟨n, hn⟩ : ∃ n, n = fs.length := ⟨_, rfl⟩
  have HN := hid hn
  rw [← hn] at hpp hl4
  have HF := hid hF
  have HFW := hid hW
  have HP := hid hp
  have p0 : w.cell? ⟨p, 0, none⟩ = some (.slice a n c) := by simp [World.cell?, hpp]
  obtain ⟨V, hV⟩ : ∃ V, V = w.alloc (.cells #[.int .i64 0] 3) := ⟨_, rfl⟩
  have bV : Below w.heap.size w V := by rw [hV]; exact (Below.refl _ _).alloc (Nat.le_refl _) _
  have p0' : V.cell? ⟨p, 0, none⟩ = some (.slice a n c) := (bV.cell (p := ⟨p, 0, none⟩) (World.block_lt_of_cell? _ _ p0)).trans p0
  have hw0 : V.heap[w.heap.size]? = some (.cells #[.int .i64 0] 3 (0, 0)) := by rw [hV]; exact heap_alloc_new w _
  obtain ⟨wb, hwb⟩ : ∃ wb, wb = w.heap.size := ⟨_, rfl⟩
  rw [← hwb] at hw0
  have HWB := hid hwb
  have HBV := hid bV
  have HW0 := hid hw0
  rw [hV] at p0'
  clear hpp hF hn hW hp hcc bV hw0 hwb
  refine calls_of_wpB (n := 8) Tryd.func6 rfl ?_
  simp only [Tryd.ntmps6, List.size_toArray, List.length_cons, List.length_nil, Nat.reduceAdd, Nat.reduceSub, Array.replicate_succ, Array.replicate_zero, List.push_toArray, List.append_toArray, List.nil_append, List.cons_append]
  refine wpB_seq (n := 8) ?_
  gi_wp2
  refine wpB_seq (n := 8) ?_
  gi_wp2
  refine wpB_seqB ?_
  refine wpB_seq (n := 8) ?_
  gi_wp2
  refine wpB_blockX ?_
  rw [← hV, ← HWB.out]
  rw [← HWB.out] at HBV
  obtain ⟨R, hR⟩ : ∃ R : Ending → World → Prop, R = (fun e w' => e = .returned (.int .i64 ((pwgt fs : Nat) : Int)) ∧ Below wb w w') := ⟨_, rfl⟩
  rw [← hR]
  have HRP : Hid (∀ w', Below wb w w' → R (.returned (.int .i64 ((pwgt fs : Nat) : Int))) w') := fun w' h => by rw [hR]; exact ⟨rfl, h⟩
  clear p0 p0' hV hR
  refine wpB_loop (fun (a' : Act) (W : World) => ∃ (k : Nat) (ds : List Deferred) (u5 u12 u13 u14 u15 u16 u17 u18 u19 u20 u21 u22 u23 u24 u25 u26 u27 : Value), k ≤ n ∧ a' = { tmps := #[.pointer (some ⟨p, 0, none⟩), undef, .int .i64 0, .pointer (some ⟨wb, 0, none⟩), undef, u5, .pointer (some ⟨p, 0, none⟩), .pointer (some ⟨p, 0, none⟩), .pointer (some ⟨p, 0, none⟩), .slice a n c, .int .i64 (n : Int), .int .i64 (k : Int), u12, u13, u14, u15, u16, u17, u18, u19, u20, u21, u22, u23, u24, u25, u26, u27, undef], defers := ds } ∧ Hid (WI wb ds (pwgt (fs.take k)) w W)) (fun a' _ => n - (intOf (a'.tmps.getD 11 undef)).toNat) ?_ ?_
  · exact ⟨0, [], undef, undef, undef, undef, undef, undef, undef, undef, undef, undef, undef, undef, undef, undef, undef, undef, undef, Nat.zero_le _, rfl, HBV.out, by simpa [pwgt] using HW0.out, trivial⟩
  · rintro a' W ⟨k, ds, u5, u12, u13, u14, u15, u16, u17, u18, u19, u20, u21, u22, u23, u24, u25, u26, u27, hk, rfl, HI⟩
    by_cases hlt : k < n
    · have hlt2 : (k : Int) < (n : Int) := by omega
      have hks : IntKind.i64.wrap ((k : Int) + 1) = (k : Int) + 1 := by rw [IntKind.wrap_i64]; omega
      obtain ⟨g, hg⟩ : ∃ g, fs[k]? = some g := ⟨_, List.getElem?_eq_getElem (by have := HN.out; omega)⟩
      obtain ⟨kb, a2, c2, b, rfl, _, d0, d1, d2, d3, _, hbd⟩ := HF.out k g hg
      have hkb : kb < wb := by rw [HWB.out]; exact World.block_lt_of_cell? _ _ d0
      have c0 := (HI.out.bel.cell (p := ⟨kb, k * 4, none⟩) hkb).trans d0
      have c1 := (HI.out.bel.cell (p := ⟨kb, k * 4 + 1, none⟩) hkb).trans d1
      have c2' := (HI.out.bel.cell (p := ⟨kb, k * 4 + 2, none⟩) hkb).trans d2
      have c3 := (HI.out.bel.cell (p := ⟨kb, k * 4 + 3, none⟩) hkb).trans d3
      have cw : W.cell? ⟨wb, 0, none⟩ = some (.int .i64 ((pwgt (fs.take k) : Nat) : Int)) := by simp [World.cell?, HI.out.box]
      have fw : W.frozen? ⟨wb, 0, none⟩ = false := by simp [World.frozen?, HI.out.box]
      obtain ⟨s1, s2⟩ := pwgt_take hg
      have hfz : fsz g = g.more.length + tsz g.body := rfl
      have HPT : Hid (PTB (fun b => b < wb) w g.body (.pointer (some ⟨b, 0, none⟩))) := PTB.keep (fun x _ hx => ⟨by rw [HWB.out]; exact hx, rfl⟩) _ _ hbd
      have HTO : Hid (TOk g.body) := TW.tok _ (HFW.out g (List.mem_of_getElem? hg)).2.2.2
      have hwr : IntKind.i64.wrap (((pwgt (fs.take k) : Nat) : Int) + (g.more.length : Int)) = ((pwgt (fs.take k) + g.more.length : Nat) : Int) := by rw [IntKind.wrap_i64]; have := HP.out; omega
      have HSM : Hid (pwgt (fs.take (k + 1)) = pwgt (fs.take k) + g.more.length + tsz g.body ∧ pwgt (fs.take (k + 1)) ≤ 1000000) := ⟨by omega, by have := HP.out; omega⟩
      clear d0 d1 d2 d3 hbd s1 s2 hfz hg
      refine wpB_seq (n := 8) ?_
      gi_wp2
      refine wpB_seq (n := 8) ?_
      gi_wp2
      refine wpB_seqB ?_
      refine wpB_blockX ?_
      refine wpB_seq (n := 8) ?_
      gi_wp2
      obtain ⟨W4, hW4⟩ : ∃ W4, W4 = W.alloc (.cells #[.string (bs g.name), .int .i64 (g.at' : Int), .slice a2 g.more.length c2, .pointer (some ⟨b, 0, none⟩)] 40) := ⟨_, rfl⟩
      have hb4 : Below W.heap.size W W4 := by rw [hW4]; exact (Below.refl _ _).alloc (Nat.le_refl _) _
      have hn4 : W4.heap[W.heap.size]? = some (.cells #[.string (bs g.name), .int .i64 (g.at' : Int), .slice a2 g.more.length c2, .pointer (some ⟨b, 0, none⟩)] 40 (0, 0)) := by rw [hW4]; exact heap_alloc_new W _
      rw [← hW4]
      have hwl := heap_lt2 HI.out.box
      have hwne : ¬ W.heap.size = wb := by omega
      have hbox4 := (hb4.block wb hwl).trans HI.out.box
      have cw4 : W4.cell? ⟨wb, 0, none⟩ = some (.int .i64 ((pwgt (fs.take k) : Nat) : Int)) := by simp [World.cell?, hbox4]
      have fw4 : W4.frozen? ⟨wb, 0, none⟩ = false := by simp [World.frozen?, hbox4]
      have f2 : W4.cell? ⟨W.heap.size, 2, none⟩ = some (.slice a2 g.more.length c2) := by simp [World.cell?, hn4]
      obtain ⟨sf, hsf⟩ : ∃ sf, sf = W.heap.size := ⟨_, rfl⟩
      rw [← hsf] at f2 hwne ⊢
      have HBX4 := hid hbox4
      have HN4 := hid hn4
      have HB4 := hid hb4
      have HSF := hid hsf
      clear c0 c1 c2' c3 cw fw hW4 hb4 hn4 hbox4 hsf
      refine wpB_seq (n := 8) ?_
      gi_wp2
      have hcast : ((pwgt (fs.take k) : Nat) : Int) + (g.more.length : Int) = ((pwgt (fs.take k) + g.more.length : Nat) : Int) := by omega
      rw [hcast]
      obtain ⟨A, hA⟩ : ∃ A, A = pwgt (fs.take k) + g.more.length := ⟨_, rfl⟩
      rw [← hA]
      have HA := hid hA
      obtain ⟨W5, hW5⟩ : ∃ W5, W5 = W4.setCell ⟨wb, 0, none⟩ (.int .i64 ((A : Nat) : Int)) := ⟨_, rfl⟩
      rw [← hW5]
      have hoth : ∀ j, j ≠ wb → W5.heap[j]? = W4.heap[j]? := fun j hj => by rw [hW5]; exact Below.heap_setCell _ _ _ _ hj
      have hbx5 : W5.heap[wb]? = some (.cells #[.int .i64 ((A : Nat) : Int)] 3 (0, 0)) := by rw [hW5]; simp [World.setCell, Array.getElem?_modify, HBX4.out]
      have hsz5 : W5.heap.size = W4.heap.size := by rw [hW5]; simp [World.setCell]
      have HI5 : Hid (WI wb ds A w W5) := by
        refine ⟨⟨?_, ?_, ?_, ?_, fun j hj => ?_⟩, hbx5, ?_⟩
        · rw [hW5]; exact HB4.out.os.trans HI.out.bel.os
        · rw [hW5]; exact HB4.out.tape.trans HI.out.bel.tape
        · rw [hW5]; exact HB4.out.output.trans HI.out.bel.output
        · rw [hsz5]; exact Nat.le_trans HI.out.bel.size HB4.out.size
        · exact (hoth j (by omega)).trans ((HB4.out.block j (by omega)).trans (HI.out.bel.block j hj))
        · exact HI.out.mrk.keep fun j hj _ => (hoth j (fun e => by rw [e, HI.out.box] at hj; cases hj)).trans (HB4.out.block j (heap_lt2 hj))
      have f3 : W5.cell? ⟨sf, 2 + 1, none⟩ = some (.pointer (some ⟨b, 0, none⟩)) := by
        have h1 := (hoth W.heap.size (by omega)).trans HN4.out
        rw [← HSF.out] at h1
        simp [World.cell?, h1]
      clear hoth hbx5 hsz5 hW5 hcast hA cw4 fw4 f2 HI HBX4 HN4 HB4
      refine wpB_seq (n := 8) ?_
      gi_wp2
      refine ⟨trivial, callsIn_wide.2 ((all_any _ _ W5).mono ?_)⟩
      rintro e wA ⟨rfl, rfl⟩
      have hbA : Below W5.heap.size W5 ((W5.alloc (.cells #[.pointer (some ⟨b, 0, none⟩)] 38)).alloc (.cells #[.pointer none] 60)) := ((Below.refl _ W5).alloc (Nat.le_refl _) _).alloc (by simp) _
      have HBX : Hid (((W5.alloc (.cells #[.pointer (some ⟨b, 0, none⟩)] 38)).alloc (.cells #[.pointer none] 60)).cell? ⟨W5.heap.size, 0, none⟩ = some (.pointer (some ⟨b, 0, none⟩))) := by unfold Hid; go_simp
      have HBY : Hid (((W5.alloc (.cells #[.pointer (some ⟨b, 0, none⟩)] 38)).alloc (.cells #[.pointer none] 60)).cell? ⟨W5.heap.size + 1, 0, none⟩ = some (.pointer none)) := by unfold Hid; go_simp
      have HBA := hid hbA
      clear hbA
      generalize (W5.alloc (.cells #[.pointer (some ⟨b, 0, none⟩)] 38)).alloc (.cells #[.pointer none] 60) = wA at *
      gi_wp2
      refine wpB_blockX ?_
      refine range_of (gf := 19) (lb := #[.pointer (some ⟨W5.heap.size, 0, none⟩), .pointer (some ⟨W5.heap.size + 1, 0, none⟩)]) ?_ ?_ ?_
      · rfl
      · exact entersF Tryd.func19 (by kernel_rfl) (by kernel_rfl)
      intro rec W1 hrec hW1
      have hb1 : Below wA.heap.size wA W1 := by rw [hW1]; exact ((Below.refl _ wA).alloc (Nat.le_refl _) _).alloc (by simp) _
      have hl1 : W1.heap[wA.heap.size + 1]? = some (.loop rec) := by
        rw [hW1]; have := heap_alloc_new (wA.alloc (.deferred (some []))) (.loop rec); rwa [World.size_alloc] at this
      have hd1 : W1.heap[wA.heap.size]? = some (.deferred (some [])) := by
        rw [hW1]; exact (Below.heap_alloc _ _ _ (by simp)).trans (heap_alloc_new wA _)
      have hbr := HBA.out.trans (hb1.mono HBA.out.size)
      have hx1 := (hb1.cell (p := ⟨W5.heap.size, 0, none⟩) (World.block_lt_of_cell? _ _ HBX.out)).trans HBX.out
      have hy1 := (hb1.cell (p := ⟨W5.heap.size + 1, 0, none⟩) (World.block_lt_of_cell? _ _ HBY.out)).trans HBY.out
      have hst : rec.state = .ready ∧ rec.pending = none ∧ rec.fn = 6 ∧ rec.params = #[23, 24] := by rw [hrec]; exact ⟨rfl, rfl, rfl, rfl⟩
      have hwb5 := heap_lt2 HI5.out.box
      have hwbA : wb < wA.heap.size := Nat.lt_of_lt_of_le hwb5 HBA.out.size
      have hJ0 : WJ wb (wA.heap.size + 1) rec ({ target := .collected wA.heap.size, args := #[] } :: ds) A w 0 W1 := by
        refine ⟨HI5.out.bel.trans (hbr.mono (Nat.le_of_lt hwb5)), by omega, by rw [wpn_small (show A + 0 ≤ 1000000 by have := HSM.out; have := HA.out; omega)]; exact (hbr.block wb hwb5).trans HI5.out.box, hl1, ⟨wA.heap.size, rfl, by omega, hd1, fun e he heq => ?_⟩, ?_⟩
        · obtain ⟨j, hj, hjl⟩ := HI5.out.mrk.lt e he
          rw [heq] at hj
          injection hj with hj
          injection hj with hj
          have := HBA.out.size
          omega
        · exact HI5.out.mrk.keep fun j hj _ => hbr.block j (heap_lt2 hj)
      refine (callsIn_wide (n := 0)).1 ((all1J (wA.heap.size + 1) W5.heap.size (W5.heap.size + 1) wb w (fun j W => WJ wb (wA.heap.size + 1) rec ({ target := .collected wA.heap.size, args := #[] } :: ds) A w j W) (fun j W h => h.bel) (fun j W o h => h.alloc o) ?_ g.body (some ⟨b, 0, none⟩) none W1 0 0 hx1 hy1 hJ0 HPT.out HTO.out).mono ?_)
      · intro j W b' a' hJ
        have hl := hJ.lp
        refine yield_of2 (fnv := Tryd.f6) hl hst.1 hst.2.1 (by rw [hst.2.2.2]; rfl) (by rw [hst.2.2.1]; exact Tryd.func6) ?_
        apply Exists.intro
        constructor
        · intro K hK
          rw [hrec]
          dsimp only
          gi_wp2
          exact hK
        · intro QQ hQn hQp
          have hne : wb ≠ wA.heap.size + 1 := by omega
          have hbx := (World.putObj_heap_other (o := .loop { rec with state := .busy }) hne).trans hJ.box
          have hlp := World.putObj_heap_same (o := .loop { rec with state := .busy }) (heap_lt2 hl)
          have hstep := hJ.step (r' := { rec with state := .busy })
          have e3 : rec.body = _ := congrArg Loop.body hrec
          dsimp only at e3
          have HE3 := hid e3
          have c0 : (W.putObj (wA.heap.size + 1) (.loop { rec with state := .busy })).cell? ⟨wb, 0, none⟩ = some (.int .i64 (wpn (A + j))) := by simp [World.cell?, hbx]
          have f0 : (W.putObj (wA.heap.size + 1) (.loop { rec with state := .busy })).frozen? ⟨wb, 0, none⟩ = false := by simp [World.frozen?, hbx]
          have hwv := wpn_step (A + j)
          have HLP : Hid (((W.putObj (wA.heap.size + 1) (.loop { rec with state := .busy })).setCell ⟨wb, 0, none⟩ (.int .i64 (wpn (A + (j + 1))))).heap[wA.heap.size + 1]? = some (.loop { rec with state := .busy })) := (Below.heap_setCell _ _ _ _ (fun e => hne e.symm)).trans hlp
          have HST := hid hstep
          clear e3 hrec hW1 hb1 hl1 hd1 hbr hx1 hy1 hst hJ0 hwb5 hwbA hJ hl hbx hlp hstep hne
          generalize W.putObj (wA.heap.size + 1) (.loop { rec with state := .busy }) = W2 at *
          rw [HE3.out]
          clear HE3
          rw [show A + j + 1 = A + (j + 1) from rfl] at hwv
          generalize wpn (A + (j + 1)) = v1 at *
          generalize wpn (A + j) = v0 at *
          gi_wp2
          exact hQn.out _ _ HLP.out ⟨by first | rfl | trivial, HST.out⟩
      · rintro e W2 ⟨⟨v, rfl⟩, hJ2⟩
        refine ⟨hJ2.lp, ?_⟩
        obtain ⟨g1, g2, g3⟩ := hJ2.shut (r' := { rec with state := .exhausted })
        rw [wpn_small (show A + (0 + tsz g.body) ≤ 1000000 by have := HSM.out; have := HA.out; omega)] at g2
        have HI6 : Hid (WI wb ({ target := .collected wA.heap.size, args := #[] } :: ds) (pwgt (fs.take (k + 1))) w (W2.putObj (wA.heap.size + 1) (.loop { rec with state := .exhausted }))) := by
          refine ⟨g1, ?_, g3⟩
          rw [g2, HSM.out.1, HA.out, Nat.zero_add]
        clear hJ2 g1 g2 g3 hrec hW1 hb1 hl1 hd1 hbr hx1 hy1 hst hJ0 hwb5 hwbA
        generalize W2.putObj (wA.heap.size + 1) (.loop { rec with state := .exhausted }) = W6 at *
        show wpB _ _ _ _ _ _
        refine wpB_of (n := 8) ?_
        gi_wp2
        refine ⟨⟨k + 1, _, _, _, _, _, _, _, _, _, _, _, _, _, _, _, _, _, _, by omega, by rw [Int.natCast_add]; rfl, HI6⟩, by simp [intOf]; omega⟩
    · obtain rfl : k = n := by omega
      have hlt2 : ¬ (k : Int) < (k : Int) := by omega
      refine wpB_seq (n := 8) ?_
      gi_wp2
      refine wpB_seq (n := 8) ?_
      gi_wp2
      refine ⟨rfl, ?_⟩
      show wpB _ _ _ _ _ _
      have cw : W.cell? ⟨wb, 0, none⟩ = some (.int .i64 ((pwgt (fs.take k) : Nat) : Int)) := by simp [World.cell?, HI.out.box]
      have HLV : Hid (∀ tmps : Array Value, tmps.getD 2 undef = .int .i64 ((pwgt (fs.take k) : Nat) : Int) → LeavesInM Fence.wide 8 Tryd.prog Tryd.f6 tmps R ds .returning W) := fun tmps ht => by
        refine mks_leave ds W HI.out.mrk (fun W' hW' => ⟨_, results_tmp rfl _ _ _, ?_⟩)
        rw [ht, HN.out, List.take_length]
        exact HRP.out W' (HI.out.bel.trans hW')
      refine wpB_of (n := 8) ?_
      gi_wp2
      exact HLV.out _ rfl

end Go.Proofs.YthpkcageimhgaaaDoor
