/- Package source: how many parts a program has. SourceParses: the walk. -/
import Derived.Test.YthemehdcakimgaiGreatDoorBgBH
import Derived.Test.YthemehdcakimgaiGreatDoorBgAS
import Derived.Test.YthemehdcakimgaiGreatDoorBgBA
import Derived.Test.YthemehdcakimgaiGreatDoorFld
import Derived.Test.YthemehdcakimgaiGreatDoorBgAZ
import Derived.Test.YthemehdcakimgaiGreatDoorBgBD
namespace Go.Proofs.YthemehdcakimgaiGreatDoor
open Go.RowKit Go.Shelf

attribute [local go_sem] Oper.semAt_some

/-- marks of loops over functions: nothing was deferred in them -/
def Mks (lo : Nat) : List Deferred → World → Prop
  | [], _ => True
  | d :: ds, W => (∃ k, d = { target := .collected k, args := #[] } ∧ lo ≤ k ∧ W.heap[k]? = some (.deferred (some [])) ∧ ∀ e, e ∈ ds → e ≠ d) ∧ Mks lo ds W
theorem Mks.keep {lo : Nat} : ∀ {ds : List Deferred} {W W' : World}, Mks lo ds W → (∀ k, W.heap[k]? = some (.deferred (some [])) → ({ target := .collected k, args := #[] } : Deferred) ∈ ds → W'.heap[k]? = W.heap[k]?) → Mks lo ds W'
  | [], _, _, _, _ => trivial
  | d :: ds, W, W', h, hk => by
    obtain ⟨⟨k, rfl, h1, h2, h3⟩, h4⟩ := h
    exact ⟨⟨k, rfl, h1, (hk k h2 List.mem_cons_self).trans h2, h3⟩, h4.keep fun j hj hm => hk j hj (List.mem_cons_of_mem _ hm)⟩
theorem mks_leave {lo n : Nat} {P : Program} {fn : Func} {tmps : Array Value} {R : Ending → World → Prop} : ∀ (ds : List Deferred) (W : World), Mks lo ds W → (∀ W', Below lo W W' → ∃ v, (results fn tmps).run P W' = .ok v W' ∧ R (.returned v) W') → LeavesInM Fence.wide n P fn tmps R ds .returning W
  | [], W, _, h => by
    obtain ⟨v, h1, h2⟩ := h W (Below.refl _ _)
    exact ⟨v, h1, h2⟩
  | d :: ds, W, hm, h => by
    obtain ⟨⟨k, rfl, h1, h2, h3⟩, h4⟩ := hm
    refine ⟨by simp, .inl ⟨k, _, rfl, run_takeDeferred h2, ?_⟩⟩
    refine mks_leave ds _ (h4.keep fun j hj hmem => World.putObj_heap_other (fun e => ?_)) (fun W' hW' => h W' (((Below.refl _ W).past h1).trans hW'))
    subst e
    exact h3 _ hmem rfl

theorem Mks.lt {lo : Nat} : ∀ {ds : List Deferred} {W : World}, Mks lo ds W → ∀ e, e ∈ ds → ∃ k, e = { target := .collected k, args := #[] } ∧ k < W.heap.size
  | [], _, _, e, h => by cases h
  | d :: ds, W, h, e, he => by
    obtain ⟨⟨k, rfl, h1, h2, h3⟩, h4⟩ := h
    rcases List.mem_cons.1 he with rfl | he
    · exact ⟨k, rfl, (Array.getElem?_eq_some_iff.1 h2).1⟩
    · exact h4.lt e he
/-- a number, as an int holds it -/
def wpn (x : Nat) : Int := IntKind.i64.wrap (x : Int)
theorem wpn_step (x : Nat) : IntKind.i64.wrap (wpn x + 1) = wpn (x + 1) := by unfold wpn; rw [IntKind.wrap_i64, IntKind.wrap_i64, IntKind.wrap_i64]; omega
theorem wpn_small {x : Nat} (h : x ≤ 1000000) : wpn x = (x : Int) := by unfold wpn; rw [IntKind.wrap_i64]; omega
/-- what a round over a function keeps: the box of the weight, the loop's record, the marks -/
structure WJ (wb l : Nat) (rec : Loop) (ds : List Deferred) (A : Nat) (w : World) (j : Nat) (W : World) : Prop where
  bel : Below wb w W
  ge : wb < l
  box : W.heap[wb]? = some (.cells #[.int .i64 (wpn (A + j))] 3 (0, 0))
  lp : W.heap[l]? = some (.loop rec)
  mrk : Mks wb ds W
theorem heap_lt2 {W : World} {k : Nat} {o : Obj} (h : W.heap[k]? = some o) : k < W.heap.size := (Array.getElem?_eq_some_iff.1 h).1
/-- a block that was there before (the library has two laws of one name) -/
theorem heap_oldM (W : World) (o : Obj) (k : Nat) (h : k < W.heap.size) : (W.alloc o).heap[k]? = W.heap[k]? :=
  (((Below.refl W.heap.size W).alloc (Nat.le_refl _) o).block k h)
theorem WJ.alloc {wb l : Nat} {rec : Loop} {ds : List Deferred} {A j : Nat} {w W : World} (h : WJ wb l rec ds A w j W) (o : Obj) : WJ wb l rec ds A w j (W.alloc o) :=
  ⟨h.bel.alloc (Nat.le_of_lt (heap_lt2 h.box)) o, h.ge, (heap_oldM W o wb (heap_lt2 h.box)).trans h.box, (heap_oldM W o l (heap_lt2 h.lp)).trans h.lp, h.mrk.keep fun k hk _ => heap_oldM W o k (heap_lt2 hk)⟩
theorem WJ.step {wb l : Nat} {rec r' : Loop} {ds : List Deferred} {A j : Nat} {w W : World} (h : WJ wb l rec ds A w j W) : WJ wb l rec ds A w (j + 1) (((W.putObj l (.loop r')).setCell ⟨wb, 0, none⟩ (.int .i64 (wpn (A + (j + 1))))).putObj l (.loop rec)) := by
  have hne : wb ≠ l := by have := h.ge; omega
  have hlt := heap_lt2 h.lp
  have hbx : (W.putObj l (.loop r')).heap[wb]? = some (.cells #[.int .i64 (wpn (A + j))] 3 (0, 0)) := (World.putObj_heap_other hne).trans h.box
  have hset : ((W.putObj l (.loop r')).setCell ⟨wb, 0, none⟩ (.int .i64 (wpn (A + (j + 1))))).heap[wb]? = some (.cells #[.int .i64 (wpn (A + (j + 1)))] 3 (0, 0)) := by
    simp [World.setCell, Array.getElem?_modify, hbx]
  have hoth : ∀ k, k ≠ wb → k ≠ l → (((W.putObj l (.loop r')).setCell ⟨wb, 0, none⟩ (.int .i64 (wpn (A + (j + 1))))).putObj l (.loop rec)).heap[k]? = W.heap[k]? := fun k h1 h2 =>
    (World.putObj_heap_other h2).trans ((Below.heap_setCell _ _ _ _ h1).trans (World.putObj_heap_other h2))
  have hsz : ((W.putObj l (.loop r')).setCell ⟨wb, 0, none⟩ (.int .i64 (wpn (A + (j + 1))))).heap.size = W.heap.size := by simp [World.setCell, World.putObj]
  refine ⟨⟨h.bel.os, h.bel.tape, h.bel.output, by have := h.bel.size; simpa [World.putObj, World.setCell] using this, fun k hk => (hoth k (by omega) (by have := h.ge; omega)).trans (h.bel.block k hk)⟩, h.ge, (World.putObj_heap_other hne).trans hset, World.putObj_heap_same (by rw [hsz]; exact hlt), ?_⟩
  exact h.mrk.keep fun k hk _ => hoth k (fun e => by rw [e, h.box] at hk; cases hk) (fun e => by rw [e, h.lp] at hk; cases hk)
theorem WJ.shut {wb l : Nat} {rec r' : Loop} {ds : List Deferred} {A j : Nat} {w W : World} (h : WJ wb l rec ds A w j W) : Below wb w (W.putObj l (.loop r')) ∧ (W.putObj l (.loop r')).heap[wb]? = some (.cells #[.int .i64 (wpn (A + j))] 3 (0, 0)) ∧ Mks wb ds (W.putObj l (.loop r')) := by
  have hne : wb ≠ l := by have := h.ge; omega
  refine ⟨h.bel.past (Nat.le_of_lt h.ge), (World.putObj_heap_other hne).trans h.box, h.mrk.keep fun k hk _ => World.putObj_heap_other (fun e => by rw [e, h.lp] at hk; cases hk)⟩
/-- what the loop over the functions keeps -/
structure WI (wb : Nat) (ds : List Deferred) (A : Nat) (w W : World) : Prop where
  bel : Below wb w W
  box : W.heap[wb]? = some (.cells #[.int .i64 ((A : Nat) : Int)] 3 (0, 0))
  mrk : Mks wb ds W

set_option maxRecDepth 100000 in
set_option maxHeartbeats 4000000 in
theorem pweight_any (lo p : Nat) (fs : List FnT) (w : World) (hP : PgAt lo w p fs) (hW : ∀ g, g ∈ fs → FW g) (hl4 : fs.length ≤ 4000) (hp : pwgt fs ≤ 1000000) :
    Calls Tryz.prog 9 #[.pointer (some ⟨p, 0, none⟩)] w fun e w' => e = .returned (.int .i64 ((pwgt fs : Nat) : Int)) ∧ Below w.heap.size w w' := by
  obtain ⟨a, c, B, hpp, _, _, hcc, hF, _⟩ := hP
  obtain ⟨n, hn⟩ : ∃ n, n = fs.length := ⟨_, rfl⟩
  have HN := hid hn
  rw [← hn] at hpp hl4
  have HF := hid hF
  have HFW := hid hW
  have HP := hid hp
  have p0 : w.cell? ⟨p, 0, none⟩ = some (.slice a n c) := by simp [World.cell?, hpp]
  obtain ⟨V, hV⟩ : ∃ V, V = w.alloc (.cells #[.int .i64 0] 3) := ⟨_, rfl⟩
  have bV : Below w.heap.size w V := by rw [hV]; exact (Below.refl _ _).alloc (Nat.le_refl _) _
  have p0' : V.cell? ⟨p, 0, none⟩ = some (.slice a n c) := (bV.cell (p := ⟨p, 0, none⟩) (World.block_lt_of_cell? _ _ p0)).trans p0
  have hw0 : V.heap[w.heap.size]? = some (.cells #[.int .i64 0] 3 (0, 0)) := by rw [hV]; exact heap_alloc_new w _
  obtain ⟨wb, hwb⟩ : ∃ wb, wb = w.heap.size := ⟨_, rfl⟩
  rw [← hwb] at hw0
  have HWB := hid hwb
  have HBV := hid bV
  have HW0 := hid hw0
  rw [hV] at p0'
  clear hpp hF hn hW hp hcc bV hw0 hwb
  refine calls_of_wpB (n := 8) Tryz.func9 rfl ?_
  simp only [Tryz.ntmps9, List.size_toArray, List.length_cons, List.length_nil, Nat.reduceAdd, Nat.reduceSub, Array.replicate_succ, Array.replicate_zero, List.push_toArray, List.append_toArray, List.nil_append, List.cons_append]
  refine wpB_seq (n := 8) ?_
  gi_wp2
  refine wpB_seq (n := 8) ?_
  gi_wp2
  refine wpB_seqB ?_
  refine wpB_seq (n := 8) ?_
  gi_wp2
  refine wpB_blockX ?_
  rw [← hV, ← HWB.out]
  rw [← HWB.out] at HBV
  obtain ⟨R, hR⟩ : ∃ R : Ending → World → Prop, R = (fun e w' => e = .returned (.int .i64 ((pwgt fs : Nat) : Int)) ∧ Below wb w w') := ⟨_, rfl⟩
  rw [← hR]
  have HRP : Hid (∀ w', Below wb w w' → R (.returned (.int .i64 ((pwgt fs : Nat) : Int))) w') := fun w' h => by rw [hR]; exact ⟨rfl, h⟩
  clear p0 p0' hV hR
  refine wpB_loop (fun (a' : Act) (W : World) => ∃ (k : Nat) (ds : List Deferred) (u5 u12 u13 u14 u15 u16 u17 u18 u19 u20 u21 u22 u23 u24 u25 u26 u27 : Value), k ≤ n ∧ a' = { tmps := #[.pointer (some ⟨p, 0, none⟩), undef, .int .i64 0, .pointer (some ⟨wb, 0, none⟩), undef, u5, .pointer (some ⟨p, 0, none⟩), .pointer (some ⟨p, 0, none⟩), .pointer (some ⟨p, 0, none⟩), .slice a n c, .int .i64 (n : Int), .int .i64 (k : Int), u12, u13, u14, u15, u16, u17, u18, u19, u20, u21, u22, u23, u24, u25, u26, u27, undef], defers := ds } ∧ Hid (WI wb ds (pwgt (fs.take k)) w W)) (fun a' _ => n - (intOf (a'.tmps.getD 11 undef)).toNat) ?_ ?_
  · exact ⟨0, [], undef, undef, undef, undef, undef, undef, undef, undef, undef, undef, undef, undef, undef, undef, undef, undef, undef, Nat.zero_le _, rfl, HBV.out, by simpa [pwgt] using HW0.out, trivial⟩
  · rintro a' W ⟨k, ds, u5, u12, u13, u14, u15, u16, u17, u18, u19, u20, u21, u22, u23, u24, u25, u26, u27, hk, rfl, HI⟩
    by_cases hlt : k < n
    · have hlt2 : (k : Int) < (n : Int) := by omega
      have hks : IntKind.i64.wrap ((k : Int) + 1) = (k : Int) + 1 := by rw [IntKind.wrap_i64]; omega
      obtain ⟨g, hg⟩ : ∃ g, fs[k]? = some g := ⟨_, List.getElem?_eq_getElem (by have := HN.out; omega)⟩
      obtain ⟨kb, a2, c2, b, rfl, _, d0, d1, d2, d3, _, hbd⟩ := HF.out k g hg
      have hkb : kb < wb := by rw [HWB.out]; exact World.block_lt_of_cell? _ _ d0
      have c0 := (HI.out.bel.cell (p := ⟨kb, k * 4, none⟩) hkb).trans d0
      have c1 := (HI.out.bel.cell (p := ⟨kb, k * 4 + 1, none⟩) hkb).trans d1
      have c2' := (HI.out.bel.cell (p := ⟨kb, k * 4 + 2, none⟩) hkb).trans d2
      have c3 := (HI.out.bel.cell (p := ⟨kb, k * 4 + 3, none⟩) hkb).trans d3
      have cw : W.cell? ⟨wb, 0, none⟩ = some (.int .i64 ((pwgt (fs.take k) : Nat) : Int)) := by simp [World.cell?, HI.out.box]
      have fw : W.frozen? ⟨wb, 0, none⟩ = false := by simp [World.frozen?, HI.out.box]
      obtain ⟨s1, s2⟩ := pwgt_take hg
      have hfz : fsz g = g.more.length + tsz g.body := rfl
      have HPT : Hid (PTB (fun b => b < wb) w g.body (.pointer (some ⟨b, 0, none⟩))) := PTB.keep (fun x _ hx => ⟨by rw [HWB.out]; exact hx, rfl⟩) _ _ hbd
      have HTO : Hid (TOk g.body) := TW.tok _ (HFW.out g (List.mem_of_getElem? hg)).2.2.2
      have hwr : IntKind.i64.wrap (((pwgt (fs.take k) : Nat) : Int) + (g.more.length : Int)) = ((pwgt (fs.take k) + g.more.length : Nat) : Int) := by rw [IntKind.wrap_i64]; have := HP.out; omega
      have HSM : Hid (pwgt (fs.take (k + 1)) = pwgt (fs.take k) + g.more.length + tsz g.body ∧ pwgt (fs.take (k + 1)) ≤ 1000000) := ⟨by omega, by have := HP.out; omega⟩
      clear d0 d1 d2 d3 hbd s1 s2 hfz hg
      refine wpB_seq (n := 8) ?_
      gi_wp2
      refine wpB_seq (n := 8) ?_
      gi_wp2
      refine wpB_seqB ?_
      refine wpB_blockX ?_
      refine wpB_seq (n := 8) ?_
      gi_wp2
      obtain ⟨W4, hW4⟩ : ∃ W4, W4 = W.alloc (.cells #[.string (bs g.name), .int .i64 (g.at' : Int), .slice a2 g.more.length c2, .pointer (some ⟨b, 0, none⟩)] 54) := ⟨_, rfl⟩
      have hb4 : Below W.heap.size W W4 := by rw [hW4]; exact (Below.refl _ _).alloc (Nat.le_refl _) _
      have hn4 : W4.heap[W.heap.size]? = some (.cells #[.string (bs g.name), .int .i64 (g.at' : Int), .slice a2 g.more.length c2, .pointer (some ⟨b, 0, none⟩)] 54 (0, 0)) := by rw [hW4]; exact heap_alloc_new W _
      rw [← hW4]
      have hwl := heap_lt2 HI.out.box
      have hwne : ¬ W.heap.size = wb := by omega
      have hbox4 := (hb4.block wb hwl).trans HI.out.box
      have cw4 : W4.cell? ⟨wb, 0, none⟩ = some (.int .i64 ((pwgt (fs.take k) : Nat) : Int)) := by simp [World.cell?, hbox4]
      have fw4 : W4.frozen? ⟨wb, 0, none⟩ = false := by simp [World.frozen?, hbox4]
      have f2 : W4.cell? ⟨W.heap.size, 2, none⟩ = some (.slice a2 g.more.length c2) := by simp [World.cell?, hn4]
      obtain ⟨sf, hsf⟩ : ∃ sf, sf = W.heap.size := ⟨_, rfl⟩
      rw [← hsf] at f2 hwne ⊢
      have HBX4 := hid hbox4
      have HN4 := hid hn4
      have HB4 := hid hb4
      have HSF := hid hsf
      clear c0 c1 c2' c3 cw fw hW4 hb4 hn4 hbox4 hsf
      refine wpB_seq (n := 8) ?_
      gi_wp2
      have hcast : ((pwgt (fs.take k) : Nat) : Int) + (g.more.length : Int) = ((pwgt (fs.take k) + g.more.length : Nat) : Int) := by omega
      rw [hcast]
      obtain ⟨A, hA⟩ : ∃ A, A = pwgt (fs.take k) + g.more.length := ⟨_, rfl⟩
      rw [← hA]
      have HA := hid hA
      obtain ⟨W5, hW5⟩ : ∃ W5, W5 = W4.setCell ⟨wb, 0, none⟩ (.int .i64 ((A : Nat) : Int)) := ⟨_, rfl⟩
      rw [← hW5]
      have hoth : ∀ j, j ≠ wb → W5.heap[j]? = W4.heap[j]? := fun j hj => by rw [hW5]; exact Below.heap_setCell _ _ _ _ hj
      have hbx5 : W5.heap[wb]? = some (.cells #[.int .i64 ((A : Nat) : Int)] 3 (0, 0)) := by rw [hW5]; simp [World.setCell, Array.getElem?_modify, HBX4.out]
      have hsz5 : W5.heap.size = W4.heap.size := by rw [hW5]; simp [World.setCell]
      have HI5 : Hid (WI wb ds A w W5) := by
        refine ⟨⟨?_, ?_, ?_, ?_, fun j hj => ?_⟩, hbx5, ?_⟩
        · rw [hW5]; exact HB4.out.os.trans HI.out.bel.os
        · rw [hW5]; exact HB4.out.tape.trans HI.out.bel.tape
        · rw [hW5]; exact HB4.out.output.trans HI.out.bel.output
        · rw [hsz5]; exact Nat.le_trans HI.out.bel.size HB4.out.size
        · exact (hoth j (by omega)).trans ((HB4.out.block j (by omega)).trans (HI.out.bel.block j hj))
        · exact HI.out.mrk.keep fun j hj _ => (hoth j (fun e => by rw [e, HI.out.box] at hj; cases hj)).trans (HB4.out.block j (heap_lt2 hj))
      have f3 : W5.cell? ⟨sf, 2 + 1, none⟩ = some (.pointer (some ⟨b, 0, none⟩)) := by
        have h1 := (hoth W.heap.size (by omega)).trans HN4.out
        rw [← HSF.out] at h1
        simp [World.cell?, h1]
      clear hoth hbx5 hsz5 hW5 hcast hA cw4 fw4 f2 HI HBX4 HN4 HB4
      refine wpB_seq (n := 8) ?_
      gi_wp2
      refine ⟨trivial, callsIn_wide.2 ((all_any _ _ W5).mono ?_)⟩
      rintro e wA ⟨rfl, rfl⟩
      have hbA : Below W5.heap.size W5 ((W5.alloc (.cells #[.pointer (some ⟨b, 0, none⟩)] 52)).alloc (.cells #[.pointer none] 92)) := ((Below.refl _ W5).alloc (Nat.le_refl _) _).alloc (by simp) _
      have HBX : Hid (((W5.alloc (.cells #[.pointer (some ⟨b, 0, none⟩)] 52)).alloc (.cells #[.pointer none] 92)).cell? ⟨W5.heap.size, 0, none⟩ = some (.pointer (some ⟨b, 0, none⟩))) := by unfold Hid; go_simp
      have HBY : Hid (((W5.alloc (.cells #[.pointer (some ⟨b, 0, none⟩)] 52)).alloc (.cells #[.pointer none] 92)).cell? ⟨W5.heap.size + 1, 0, none⟩ = some (.pointer none)) := by unfold Hid; go_simp
      have HBA := hid hbA
      clear hbA
      generalize (W5.alloc (.cells #[.pointer (some ⟨b, 0, none⟩)] 52)).alloc (.cells #[.pointer none] 92) = wA at *
      gi_wp2
      refine wpB_blockX ?_
      refine range_of (gf := 44) (lb := #[.pointer (some ⟨W5.heap.size, 0, none⟩), .pointer (some ⟨W5.heap.size + 1, 0, none⟩)]) ?_ ?_ ?_
      · rfl
      · exact entersF Tryz.func44 (by kernel_rfl) (by kernel_rfl)
      intro rec W1 hrec hW1
      have hb1 : Below wA.heap.size wA W1 := by rw [hW1]; exact ((Below.refl _ wA).alloc (Nat.le_refl _) _).alloc (by simp) _
      have hl1 : W1.heap[wA.heap.size + 1]? = some (.loop rec) := by
        rw [hW1]; have := heap_alloc_new (wA.alloc (.deferred (some []))) (.loop rec); rwa [World.size_alloc] at this
      have hd1 : W1.heap[wA.heap.size]? = some (.deferred (some [])) := by
        rw [hW1]; exact (Below.heap_alloc _ _ _ (by simp)).trans (heap_alloc_new wA _)
      have hbr := HBA.out.trans (hb1.mono HBA.out.size)
      have hx1 := (hb1.cell (p := ⟨W5.heap.size, 0, none⟩) (World.block_lt_of_cell? _ _ HBX.out)).trans HBX.out
      have hy1 := (hb1.cell (p := ⟨W5.heap.size + 1, 0, none⟩) (World.block_lt_of_cell? _ _ HBY.out)).trans HBY.out
      have hst : rec.state = .ready ∧ rec.pending = none ∧ rec.fn = 9 ∧ rec.params = #[23, 24] := by rw [hrec]; exact ⟨rfl, rfl, rfl, rfl⟩
      have hwb5 := heap_lt2 HI5.out.box
      have hwbA : wb < wA.heap.size := Nat.lt_of_lt_of_le hwb5 HBA.out.size
      have hJ0 : WJ wb (wA.heap.size + 1) rec ({ target := .collected wA.heap.size, args := #[] } :: ds) A w 0 W1 := by
        refine ⟨HI5.out.bel.trans (hbr.mono (Nat.le_of_lt hwb5)), by omega, by rw [wpn_small (show A + 0 ≤ 1000000 by have := HSM.out; have := HA.out; omega)]; exact (hbr.block wb hwb5).trans HI5.out.box, hl1, ⟨wA.heap.size, rfl, by omega, hd1, fun e he heq => ?_⟩, ?_⟩
        · obtain ⟨j, hj, hjl⟩ := HI5.out.mrk.lt e he
          rw [heq] at hj
          injection hj with hj
          injection hj with hj
          have := HBA.out.size
          omega
        · exact HI5.out.mrk.keep fun j hj _ => hbr.block j (heap_lt2 hj)
      refine (callsIn_wide (n := 0)).1 ((all1J (wA.heap.size + 1) W5.heap.size (W5.heap.size + 1) wb w (fun j W => WJ wb (wA.heap.size + 1) rec ({ target := .collected wA.heap.size, args := #[] } :: ds) A w j W) (fun j W h => h.bel) (fun j W o h => h.alloc o) ?_ g.body (some ⟨b, 0, none⟩) none W1 0 0 hx1 hy1 hJ0 HPT.out HTO.out).mono ?_)
      · intro j W b' a' hJ
        have hl := hJ.lp
        refine yield_of2 (fnv := Tryz.f9) hl hst.1 hst.2.1 (by rw [hst.2.2.2]; rfl) (by rw [hst.2.2.1]; exact Tryz.func9) ?_
        apply Exists.intro
        constructor
        · intro K hK
          rw [hrec]
          dsimp only
          gi_wp2
          exact hK
        · intro QQ hQn hQp
          have hne : wb ≠ wA.heap.size + 1 := by omega
          have hbx := (World.putObj_heap_other (o := .loop { rec with state := .busy }) hne).trans hJ.box
          have hlp := World.putObj_heap_same (o := .loop { rec with state := .busy }) (heap_lt2 hl)
          have hstep := hJ.step (r' := { rec with state := .busy })
          have e3 : rec.body = _ := congrArg Loop.body hrec
          dsimp only at e3
          have HE3 := hid e3
          have c0 : (W.putObj (wA.heap.size + 1) (.loop { rec with state := .busy })).cell? ⟨wb, 0, none⟩ = some (.int .i64 (wpn (A + j))) := by simp [World.cell?, hbx]
          have f0 : (W.putObj (wA.heap.size + 1) (.loop { rec with state := .busy })).frozen? ⟨wb, 0, none⟩ = false := by simp [World.frozen?, hbx]
          have hwv := wpn_step (A + j)
          have HLP : Hid (((W.putObj (wA.heap.size + 1) (.loop { rec with state := .busy })).setCell ⟨wb, 0, none⟩ (.int .i64 (wpn (A + (j + 1))))).heap[wA.heap.size + 1]? = some (.loop { rec with state := .busy })) := (Below.heap_setCell _ _ _ _ (fun e => hne e.symm)).trans hlp
          have HST := hid hstep
          clear e3 hrec hW1 hb1 hl1 hd1 hbr hx1 hy1 hst hJ0 hwb5 hwbA hJ hl hbx hlp hstep hne
          generalize W.putObj (wA.heap.size + 1) (.loop { rec with state := .busy }) = W2 at *
          rw [HE3.out]
          clear HE3
          rw [show A + j + 1 = A + (j + 1) from rfl] at hwv
          generalize wpn (A + (j + 1)) = v1 at *
          generalize wpn (A + j) = v0 at *
          gi_wp2
          exact hQn.out _ _ HLP.out ⟨by first | rfl | trivial, HST.out⟩
      · rintro e W2 ⟨⟨v, rfl⟩, hJ2⟩
        refine ⟨hJ2.lp, ?_⟩
        obtain ⟨g1, g2, g3⟩ := hJ2.shut (r' := { rec with state := .exhausted })
        rw [wpn_small (show A + (0 + tsz g.body) ≤ 1000000 by have := HSM.out; have := HA.out; omega)] at g2
        have HI6 : Hid (WI wb ({ target := .collected wA.heap.size, args := #[] } :: ds) (pwgt (fs.take (k + 1))) w (W2.putObj (wA.heap.size + 1) (.loop { rec with state := .exhausted }))) := by
          refine ⟨g1, ?_, g3⟩
          rw [g2, HSM.out.1, HA.out, Nat.zero_add]
        clear hJ2 g1 g2 g3 hrec hW1 hb1 hl1 hd1 hbr hx1 hy1 hst hJ0 hwb5 hwbA
        generalize W2.putObj (wA.heap.size + 1) (.loop { rec with state := .exhausted }) = W6 at *
        show wpB _ _ _ _ _ _
        refine wpB_of (n := 8) ?_
        gi_wp2
        refine ⟨⟨k + 1, _, _, _, _, _, _, _, _, _, _, _, _, _, _, _, _, _, _, by omega, by rw [Int.natCast_add]; rfl, HI6⟩, by simp [intOf]; omega⟩
    · obtain rfl : k = n := by omega
      have hlt2 : ¬ (k : Int) < (k : Int) := by omega
      refine wpB_seq (n := 8) ?_
      gi_wp2
      refine wpB_seq (n := 8) ?_
      gi_wp2
      refine ⟨rfl, ?_⟩
      show wpB _ _ _ _ _ _
      have cw : W.cell? ⟨wb, 0, none⟩ = some (.int .i64 ((pwgt (fs.take k) : Nat) : Int)) := by simp [World.cell?, HI.out.box]
      have HLV : Hid (∀ tmps : Array Value, tmps.getD 2 undef = .int .i64 ((pwgt (fs.take k) : Nat) : Int) → LeavesInM Fence.wide 8 Tryz.prog Tryz.f9 tmps R ds .returning W) := fun tmps ht => by
        refine mks_leave ds W HI.out.mrk (fun W' hW' => ⟨_, results_tmp rfl _ _ _, ?_⟩)
        rw [ht, HN.out, List.take_length]
        exact HRP.out W' (HI.out.bel.trans hW')
      refine wpB_of (n := 8) ?_
      gi_wp2
      exact HLV.out _ rfl

end Go.Proofs.YthemehdcakimgaiGreatDoor

namespace Go.Proofs.YthemehdcakimgaiGreatDoor
open Go.RowKit Go.Maps

theorem PgAt.beloP {lo : Nat} {w w' : World} {p : Nat} {fs : List FnT} (h : PgAt lo w p fs) (hb : Below w.heap.size w w') : PgAt lo w' p fs := by
  obtain ⟨pa, pc, B, h1, h2, h3, h4, h5, h6⟩ := h
  exact ⟨pa, pc, B, (hb.block _ (Array.getElem?_eq_some_iff.1 h1).1).trans h1, h2, h3, h4, h5.below hb, h6.below hb⟩
theorem prs_sz {T : ByteArray} {fs : List FnT} {j : Nat} (h : prs T = .ok fs j) (hT : T.size ≤ 4000) : pwgt fs ≤ 4000 := by
  rw [prs_of] at h
  cases hq : pProg (by' T) (4 * T.size + 1) [] 0 with
  | out => rw [hq] at h; cases h
  | bad e a => rw [hq] at h; cases h
  | ok gs k =>
    rw [hq] at h
    have hz := pProg_sz (by' T) (4 * T.size + 1) [] 0 (Nat.zero_le _) gs k hq
    have hx := pProg_al (by' T) (by rw [by_len]; exact hT) (4 * T.size + 1) [] 0 (by simp) (Nat.le_refl _) (Nat.zero_le _)
    rw [hq] at hx
    have hx2 := hx.1.2
    rw [by_len] at hx2
    have hgs : gs = fs := by
      cases hc : ckn gs T.size with
      | none => rw [prsOf_none hc] at h; cases h; rfl
      | some e => rw [prsOf_some hc] at h; cases h
    subst hgs
    have : pwgt ([] : List FnT) = 0 := rfl
    omega
theorem fnd_main {fs : List FnT} {i : Nat} {g : FnT} (hF : FsOk fs) (hgi : fs[i]? = some g) (hgn : g.name = mainW) : fnd fs mainW = some i := by
  rw [← hgn]
  refine fnd_at (fun j g' hj hg' e => ?_) hgi rfl
  have := hF.one hg' hgi e
  omega
theorem neq_str (s : ByteArray) (w : World) : (binOp BinOp.neq 9 (.string s) (.string s)).run Tryz.prog w = .ok (.bool false) w := by
  simp [go_sem]

set_option maxRecDepth 100000 in
set_option maxHeartbeats 4000000 in
theorem sparses_walk (T : ByteArray) (w : World) (hL : Laid w) (hEv : EvW w) (hPw : PowW w) (hT : T.size ≤ 281474976710656) :
    Calls Tryz.prog 3 #[.string T] w fun e w' => e = .returned (.bool true) ∧ Below w.heap.size w w' := by
  have hns := neq_str
  have HPS := hid (parse_is T w hT hEv)
  have HRP := hid (fun (W : World) => rparse_any T W hT)
  have HW := hid (fun (fs : List FnT) (j : Nat) (h : prs T = .ok fs j) => prs_ok h)
  have HSZ := hid (fun (fs : List FnT) (j : Nat) (h : prs T = .ok fs j) (h4 : T.size ≤ 4000) => prs_sz h h4)
  have HHI := hid (fun (z : Int) (W : World) (hb : Below w.heap.size w W) => error_hit z z W (hL.below hb))
  have HPW := hid (fun (W : World) (hb : Below w.heap.size w W) => hPw.below hb hPw.lt)
  unfold RpE at HRP
  generalize prs T = r at HPS HW HRP HSZ
  clear hL hEv hT hPw
  go_enter Tryz.func3, Tryz.ntmps3
  go_wp2_with fail
  refine HPS.out.mono ?_
  intro e w2 he
  obtain ⟨hb2, he⟩ := he
  have HB2 := hid hb2
  clear HPS hb2
  by_cases h40 : 4000 < T.size
  · rw [if_pos h40] at he
    subst he
    have HR2 := hid (HRP.out w2)
    simp only [if_pos h40] at HR2
    clear h40 HRP HSZ HW HPW
    go_wp2_with fail
    refine HR2.out.mono ?_
    rintro e w3 ⟨hb3, rfl⟩
    have HB3 := hid (HB2.out.trans (hb3.mono HB2.out.size))
    clear hb3 HR2
    go_wp2_with fail
    refine (HHI.out 9 w3 HB3.out).mono ?_
    rintro e w4 ⟨rfl, hb4⟩
    have HB4 := hid (HB3.out.trans (hb4.mono HB3.out.size))
    clear hb4
    go_wp2_with fail
    go_ret
    exact ⟨by simp, HB4.out⟩
  · rw [if_neg h40] at he
    have HR2 := hid (HRP.out w2)
    simp only [if_neg h40] at HR2
    clear HRP
    cases r with
    | out => exact he.elim
    | bad er at' =>
      have he' : e = .returned (.tuple #[.pointer none, .int .i64 (at' : Int), .iface 44 (.int .i64 (er : Int))]) := he
      subst he'
      clear h40 HSZ HW HPW
      go_wp2_with fail
      refine HR2.out.mono ?_
      rintro e w3 ⟨hb3, rfl, her⟩
      have HB3 := hid (HB2.out.trans (hb3.mono HB2.out.size))
      have bz : ((er : Int) != 0) = true := by simp; omega
      have ba : ((at' : Int) != (at' : Int)) = false := by simp
      clear hb3 HR2 her
      go_wp2_with fail
      refine (HHI.out (er : Int) w3 HB3.out).mono ?_
      rintro e w4 ⟨rfl, hb4⟩
      have HB4 := hid (HB3.out.trans (hb4.mono HB3.out.size))
      have be : ((er : Int) == (er : Int)) = true := by simp
      clear hb4
      rw [be]
      go_wp2_with fail
      go_ret
      exact ⟨by simp, HB4.out⟩
    | ok fs j =>
      obtain ⟨⟨pg, rfl, hPg⟩, hfw, hn4⟩ := he
      obtain ⟨hF, i, g, hgi, hgn, hi⟩ := HW.out fs j rfl
      have hsz := HSZ.out fs j rfl (by omega)
      have hfd := fnd_main hF hgi hgn
      have HPG := hid hPg
      have HFW := hid hfw
      have HGI := hid hgi
      have HFD := hid hfd
      have HI := hid hi
      have HN4 := hid hn4
      have HZ := hid hsz
      clear hPg hfw hF hgi hgn hi hn4 h40 HW HSZ hsz hfd
      go_wp2_with fail
      refine HR2.out.mono ?_
      rintro e w3 ⟨hb3, a, c, Xs, rfl, hRF⟩
      have HB3 := hid (HB2.out.trans (hb3.mono HB2.out.size))
      have HPG3 := hid (HPG.out.beloP hb3)
      have HRF := hid hRF
      have HEN := hid (fun W => error_nil 0 W)
      clear hb3 HR2 hRF HPG
      have HPP := hid (pprint_any itN PowW itN_len PowW.keep itN_any w.heap.size pg fs w3 (HPW.out w3 HB3.out) HPG3.out HFW.out HN4.out (by have := HZ.out; omega))
      have HRR := hid (fun (W : World) (hb : Below w3.heap.size w3 W) => rprint_any itN PowW itN_len PowW.keep itN_any w2.heap.size c a fs Xs W (HRF.out.below hb) HFW.out (by have := HN4.out; omega) (by have := HZ.out; omega) (HPW.out W (HB3.out.trans (hb.mono HB3.out.size))))
      have HPE := hid (fun (W : World) (hb : Below w3.heap.size w3 W) => pweight_any w.heap.size pg fs W (HPG3.out.beloP hb) HFW.out HN4.out (by have := HZ.out; omega))
      have HRE := hid (fun (W : World) (hb : Below w3.heap.size w3 W) => rweight_any w2.heap.size c a fs Xs W (HRF.out.below hb) (by have := HN4.out; omega) (by have := HZ.out; omega))
      have HFI := hid (fun (W : World) (hb : Below w3.heap.size w3 W) => rgfind_any w2.heap.size c a fs Xs ⟨#[109, 97, 105, 110]⟩ W (HRF.out.below hb) (by have := HN4.out; omega))
      have HAR := hid (fun (W : World) (hb : Below w3.heap.size w3 W) => args_any w.heap.size pg i fs g W (HPG3.out.beloP hb) HI.out HGI.out)
      have HFU := hid (fun (W : World) (hb : Below w3.heap.size w3 W) => functions_any w.heap.size pg fs W (HPG3.out.beloP hb) HN4.out)
      clear HPG3 HFW HI HZ
      generalize bs (prP itN fs fs.length) = SP at *
      generalize ((pwgt fs : Nat) : Int) = WP at *
      obtain ⟨nf, hnf⟩ : ∃ nf, nf = fs.length := ⟨_, rfl⟩
      have HNF := hid hnf
      rw [← hnf] at HRR HRE HFI HFU HN4 ⊢
      have hnf4 := HN4.out
      clear hnf
      go_wp2_with fail
      refine (HEN.out w3).mono ?_
      rintro e w4 ⟨rfl, hw4⟩
      have hw5 := hw4.symm
      subst hw5
      go_wp2_with fail
      refine HPP.out.mono ?_
      rintro e w5 ⟨rfl, hb5⟩
      have H5 := hid hb5
      clear HPP hb5 HEN
      go_wp2_with fail
      refine (HRR.out w5 H5.out).mono ?_
      rintro e w6 ⟨rfl, hb6⟩
      have H6 := hid (H5.out.trans (hb6.mono H5.out.size))
      clear HRR hb6 H5
      go_wp2_with fail
      refine (HPE.out w6 H6.out).mono ?_
      rintro e w7 ⟨rfl, hb7⟩
      have H7 := hid (H6.out.trans (hb7.mono H6.out.size))
      clear HPE hb7 H6
      go_wp2_with fail
      refine (HRE.out w7 H7.out).mono ?_
      rintro e w8 ⟨rfl, hw8⟩
      have hw9 := hw8.symm
      subst hw9
      clear HRE
      go_wp2_with fail
      refine (HFI.out w7 H7.out).mono ?_
      rintro e w8 ⟨hw8, hfe⟩
      have hw9 := hw8.symm
      subst hw9
      have hby : by' (⟨#[109, 97, 105, 110]⟩ : ByteArray) = mainW := by rw [mainS]; simp [by', bs]
      rw [hby] at hfe
      rcases hfe with ⟨hno, _⟩ | ⟨k, X, hk, hX, rfl⟩
      · have := HFD.out; rw [hno] at this; cases this
      have hki : k = i := by have h1 := HFD.out; rw [hk] at h1; injection h1
      subst hki
      clear hk hby HFI
      go_wp2_with fail
      refine (HAR.out w7 H7.out).mono ?_
      rintro e w8 ⟨rfl, hb8⟩
      have H8 := hid (H7.out.trans (hb8.mono H7.out.size))
      clear HAR hb8 H7
      go_wp2_with fail
      refine (HFU.out w8 H8.out).mono ?_
      rintro e w9 ⟨K, rfl, _, hrow, hb9⟩
      have H9 := hid (H8.out.trans (hb9.mono H8.out.size))
      have HROW := hid hrow
      clear HFU hb9 H8 hrow
      have HB9 := hid (HB3.out.trans (H9.out.mono HB3.out.size))
      obtain ⟨_, am, cm, aw, cw, pb, _, hXh, _⟩ := HRF.out.at' k g X HGI.out hX
      have x2 : w3.cell? ⟨X, 2, none⟩ = some (.slice am g.more.length cm) := by simp [World.cell?, hXh]
      have y2 := (H9.out.cell (p := ⟨X, 2, none⟩) (World.block_lt_of_cell? _ _ x2)).trans x2
      have HEL : Hid (∀ u, u < nf → ∃ kb Y N, a = some ⟨kb, 0, none⟩ ∧ w9.cell? ⟨kb, u, none⟩ = some (.pointer (some ⟨Y, 0, none⟩)) ∧ w9.cell? ⟨Y, 0, none⟩ = some (.string N) ∧ w9.cell? ⟨K, u, none⟩ = some (.string N)) := fun u hu => by
        obtain ⟨g', Y, kb, hg', hY, rfl, hc, hR⟩ := HRF.out.get (i := u) (by have := HNF.out; omega)
        obtain ⟨am', cm', aw', cw', pb', _, hYh, _⟩ := hR
        have y0 : w3.cell? ⟨Y, 0, none⟩ = some (.string (bs g'.name)) := by simp [World.cell?, hYh]
        refine ⟨kb, Y, bs g'.name, rfl, (H9.out.cell (p := ⟨kb, u, none⟩) (World.block_lt_of_cell? _ _ hc)).trans hc, (H9.out.cell (p := ⟨Y, 0, none⟩) (World.block_lt_of_cell? _ _ y0)).trans y0, ?_⟩
        have := HROW.out.cell (i := u) hu
        rw [this]
        unfold nmV
        rw [if_pos hu, hg']
      have q1 : ((g.more.length : Int) != (g.more.length : Int)) = false := by simp
      have q2 : ((nf : Int) != (nf : Int)) = false := by simp
      have q3 : (WP != WP) = false := by simp
      clear hX hXh x2 HRF HROW HGI HFD HNF H9 HB3
      generalize g.more.length = gm at *
      go_wp2_with fail
      go_loopw [17] (fun iv wr => ∃ (u m : Nat), u ≤ nf ∧ iv = .int .i64 u ∧ Hid (wr = w9.drewN m)) (fun iv _ => nf - (intOf iv).toNat)
      case atStart => exact ⟨0, 0, Nat.zero_le _, rfl, rfl⟩
      case round =>
        obtain ⟨u, m, hu, rfl, HWr⟩ := hrel
        by_cases hlt : u < nf
        · have hlt2 : (u : Int) < (nf : Int) := by omega
          have hus : IntKind.i64.wrap ((u : Int) + 1) = (u : Int) + 1 := by rw [IntKind.wrap_i64]; omega
          obtain ⟨kb, Y, N, rfl, d0, d1, d2⟩ := HEL.out u hlt
          have d0' : wr.cell? ⟨kb, u, none⟩ = some (.pointer (some ⟨Y, 0, none⟩)) := by rw [HWr.out]; exact d0
          have d1' : wr.cell? ⟨Y, 0, none⟩ = some (.string N) := by rw [HWr.out]; exact d1
          have d2' : wr.cell? ⟨K, u, none⟩ = some (.string N) := by rw [HWr.out]; exact d2
          clear d0 d1 d2
          go_wp2_with fail
          go_quiet (fail)
          go_wp2_with fail
          go_roundw
          case rel => exact ⟨u + 1, _, by omega, by go_num, by unfold Hid; rw [HWr.out, World.drewN_drewN]⟩
          case measure => simp [intOf]; omega
        · obtain rfl : u = nf := by omega
          have hlt2 : ¬ (u : Int) < (u : Int) := by omega
          go_wp2_with fail
          go_ret
          exact ⟨rfl, by rw [HWr.out]; exact below_drewN HB9.out _⟩

end Go.Proofs.YthemehdcakimgaiGreatDoor
