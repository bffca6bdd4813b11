/- Package source: main. -/
import Derived.Test.YtlgcmeachjjmgajGreatDoorBeY
namespace Go.Proofs.YtlgcmeachjjmgajGreatDoor
open Go.RowKit

/-- the first names of main, and what they stand for -/
def mnS (p : Nat) (more : List (List UInt8 × Nat)) (args : List Int) : Nat → List (List UInt8 × Int)
  | 0 => []
  | j + 1 => match more[j]? with
    | some m => (m.1, zat args j % (p : Int)) :: mnS p more args j
    | none => mnS p more args j
theorem mnS_bd (p : Nat) (more : List (List UInt8 × Nat)) (args : List Int) (h3 : 3 ≤ p) : ∀ j, ScB p (mnS p more args j)
  | 0 => by intro y hy; cases hy
  | j + 1 => by
    rw [mnS]
    split
    · intro y hy
      rcases List.mem_cons.1 hy with rfl | hy
      · exact ⟨Int.emod_nonneg _ (by omega), Int.emod_lt_of_pos _ (by omega)⟩
      · exact mnS_bd p more args h3 j y hy
    · exact mnS_bd p more args h3 j
theorem res_putM (t : Array Value) (d : Nat) (v : Value) (h4 : d ≠ 4) (h5 : d ≠ 5) : results Tryz.f31 (t.setIfInBounds d v) = results Tryz.f31 t := by
  have e : ∀ k, d ≠ k → (t.setIfInBounds d v)[k]? = t[k]? := fun k hk => Array.getElem?_setIfInBounds_ne hk
  simp [results, Tryz.results31, e 4 h4, e 5 h5]
theorem panic_putM {R : Ending → World → Prop} (d : Nat) (v : Value) (h4 : d ≠ 4) (h5 : d ≠ 5) (c : List PanicEntry) (a : Act) (w : World) (h : bodyPostD Tryz.prog Tryz.f31 R (.panic c) (a.put (some d) v) w) : bodyPostD Tryz.prog Tryz.f31 R (.panic c) a w :=
  leaves_sameS (res_putM a.tmps d v h4 h5) _ _ _ h
/-- how main ends -/
def MnR (V : Nat) (w : World) (r : ER Int) (e : Ending) (w' : World) : Prop := Fr V w w' ∧ match r with
  | .val x k => e = .returned (.tuple #[.agg #[.int .i64 x, .int .i64 (k : Int)], .nilIface])
  | .stop er => e = .returned (.tuple #[.agg #[.int .i64 0, .int .i64 0], .iface 72 (.int .i64 (er : Int))])
  | .out => False
/-- what stands in main -/
structure MnS (C V : Nat) (x y v : Value) (w W : World) : Prop where
  s1 : W.heap[C]? = some (.cells #[x, y] 36 (0, 0))
  s2 : W.heap[C + 1]? = some (.cells #[v] 28 (0, 0))
  fr : Fr V w W
  hC : w.heap.size ≤ C
theorem mnS_of (V : Nat) (w : World) (hV : V < w.heap.size) : MnS w.heap.size V (.int .i64 0) (.int .i64 0) .nilIface w ((w.alloc (.cells #[.int .i64 0, .int .i64 0] 36)).alloc (.cells #[.nilIface] 28)) := by
  obtain ⟨V1, h1⟩ : ∃ V, V = w.alloc (.cells #[.int .i64 0, .int .i64 0] 36) := ⟨_, rfl⟩
  rw [← h1]
  have e1 : V1.heap.size = w.heap.size + 1 := by rw [h1]; simp
  have b1 : Below w.heap.size w V1 := by rw [h1]; exact (Below.refl _ _).alloc (Nat.le_refl _) _
  have b2 : Below V1.heap.size V1 (V1.alloc (.cells #[.nilIface] 28)) := (Below.refl _ _).alloc (Nat.le_refl _) _
  have n1 : V1.heap[w.heap.size]? = some (.cells #[.int .i64 0, .int .i64 0] 36 (0, 0)) := by rw [h1]; exact heap_alloc_new w _
  exact ⟨(b2.block _ (by omega)).trans n1, by rw [← e1]; exact heap_alloc_new V1 _, Fr.below (b1.trans (b2.mono (by omega))) (Nat.le_of_lt hV), Nat.le_refl _⟩
theorem MnS.step {C V : Nat} {x y v : Value} {w W W' : World} (h : MnS C V x y v w W) (e : Fr V W W') (hV : V < w.heap.size) : MnS C V x y v w W' :=
  ⟨(e.2 C (Array.getElem?_eq_some_iff.1 h.s1).1 (by have := h.hC; omega)).trans h.s1, (e.2 (C + 1) (Array.getElem?_eq_some_iff.1 h.s2).1 (by have := h.hC; omega)).trans h.s2, h.fr.trans e, h.hC⟩
theorem MnS.put {C V : Nat} {x y v : Value} {w W : World} (h : MnS C V x y v w W) (hV : V < w.heap.size) (x' y' v' : Value) : MnS C V x' y' v' w (((W.setCell ⟨C, 0, none⟩ x').setCell ⟨C, 1, none⟩ y').setCell ⟨C + 1, 0, none⟩ v') := by
  have hc := h.hC
  have o1 : ∀ (X : World) (k g i : Nat) (u : Value), k ≠ g → (X.setCell ⟨g, i, none⟩ u).heap[k]? = X.heap[k]? := fun X k g i u hk => Below.heap_setCell _ _ _ _ hk
  refine ⟨?_, ?_, ((h.fr.setNew hc hV 0 x').setNew hc hV 1 y').setNew (Nat.le_succ_of_le hc) hV 0 v', hc⟩
  · rw [o1 _ _ _ _ _ (by omega)]
    exact heap_setCell_same _ C 1 _ _ _ (heap_setCell_same _ C 0 _ _ _ h.s1)
  · exact oneS_set (by rw [o1 _ _ _ _ _ (by omega), o1 _ _ _ _ _ (by omega)]; exact h.s2) v'

set_option maxRecDepth 100000 in
set_option maxHeartbeats 2000000 in
theorem main_of (p V fb pg fuel lo : Nat) (fs : List FnT) (w0 : World) (h3 : 3 ≤ p) (h4 : p ≤ 2147483647) (hpr : Num.Prime p) (hp : w0.cell? ⟨fb, 0, none⟩ = some (.int .i64 p)) (hV0 : w0.heap.size ≤ V) (hPg : PgAt lo w0 pg fs) (hW : ∀ g, g ∈ fs → FW g) (hf : fuel ≤ 1000000) (w : World) (hb : Below w0.heap.size w0 w) (hE : EvAt w V fb pg 0 fuel) (aa : Option Addr) (ca : Nat) (args : List Int) (hA : RowB w0.heap.size w0 aa args) (hAb : ∀ j, -9223372036854775808 ≤ zat args j ∧ zat args j ≤ 9223372036854775807)
    (g : FnT) (i : Nat) (hi : nmM fs fs.length mainW = some (i : Int)) (hgi : fs[i]? = some g) (hal : args.length = g.more.length) (R : Nat) (r : ER Int) (hr : r = evl p fs fuel R g.body (mnS p g.more args g.more.length) 0) (hro : r ≠ .out) :
    Calls Tryz.prog 31 #[.pointer (some ⟨V, 0, none⟩), .slice aa args.length ca] w (MnR V w r) := by
  have hmf : ∀ (fn : Fn) (first cap : Array Value) (w : World), (Instr.makeFunc fn first cap).run Tryz.prog w = .ok (.func fn first cap) w := fun _ _ _ _ => rfl
  have hVl := hE.lt
  obtain ⟨pa, pc, B, hpb, _, _, hcc, hF, hM⟩ := hPg
  have hPg2 : PgAt lo w0 pg fs := ⟨pa, pc, B, hpb, by assumption, by assumption, hcc, hF, hM⟩
  have HIH := hid (value_all p V fb pg fuel lo fs w0 h3 h4 hpr hp hV0 hPg2 hW hf R)
  have hil : i < fs.length := (List.getElem?_eq_some_iff.1 hgi).1
  obtain ⟨kb, a2, c2, bb, rfl, _, d0, d1, d2, d3, d4, d5⟩ := hF i g hgi
  have q0 : w0.cell? ⟨pg, 0, none⟩ = some (.slice (some ⟨kb, 0, none⟩) fs.length pc) := by simp [World.cell?, hpb]
  have q1 : w0.cell? ⟨pg, 1, none⟩ = some (.map (some B)) := by simp [World.cell?, hpb]
  have HFN : Hid (∀ W, Fr V w W → Calls Tryz.prog 56 #[.pointer (some ⟨pg, 0, none⟩), .string ⟨#[109, 97, 105, 110]⟩] W fun e w' => e = .returned (.agg #[.string (bs g.name), .int .i64 (g.at' : Int), .slice a2 g.more.length c2, .pointer (some ⟨bb, 0, none⟩)]) ∧ Below W.heap.size W w') := fun W hw => by
    have hB := hb.trans (hw.1.mono hV0)
    rw [mainS]
    exact function_at pg i fs.length pc kb B fs mainW g a2 c2 bb W ((hB.cell (p := ⟨pg, 0, none⟩) (World.block_lt_of_cell? _ _ q0)).trans q0) ((hB.cell (p := ⟨pg, 1, none⟩) (World.block_lt_of_cell? _ _ q1)).trans q1) hil (hM.below hB) hi (by decide) ((hB.cell (p := ⟨kb, i * 4, none⟩) (World.block_lt_of_cell? _ _ d0)).trans d0) ((hB.cell (p := ⟨kb, i * 4 + 1, none⟩) (World.block_lt_of_cell? _ _ d1)).trans d1) ((hB.cell (p := ⟨kb, i * 4 + 2, none⟩) (World.block_lt_of_cell? _ _ d2)).trans d2) ((hB.cell (p := ⟨kb, i * 4 + 3, none⟩) (World.block_lt_of_cell? _ _ d3)).trans d3)
  have HW0 := hid (mnS_of V w hVl)
  obtain ⟨W0, hW0⟩ : ∃ W0, W0 = (w.alloc (.cells #[.int .i64 0, .int .i64 0] 36)).alloc (.cells #[.nilIface] 28) := ⟨_, rfl⟩
  rw [← hW0] at HW0
  obtain ⟨C, hC⟩ : ∃ C, C = w.heap.size := ⟨_, rfl⟩
  rw [← hC] at HW0
  have hE0 : EvAt W0 V fb pg 0 fuel := by
    have : Below w.heap.size w W0 := by rw [hW0]; exact ((Below.refl _ w).alloc (Nat.le_refl _) _).alloc (by simp) _
    exact (this.block _ hVl).trans hE
  have v1 : W0.cell? ⟨V, 1, none⟩ = some (.pointer (some ⟨pg, 0, none⟩)) := by simp [World.cell?, show W0.heap[V]? = _ from hE0]
  have HE0 := hid hE0
  have HND := hid d4
  have HPD := hid d5
  have HB := hid hb
  have HA := hid hA
  have HAB := hid hAb
  have HAL := hid hal
  have HR := hid hr
  have HRO := hid hro
  have HFW := hid (hW g (List.mem_of_getElem? hgi))
  have HP := hid hp
  have HVL := hid hVl
  obtain ⟨na, hna⟩ : ∃ na, na = args.length := ⟨_, rfl⟩
  have HNA := hid hna
  rw [← hna]
  clear hgi hi hpb hcc hF hM d0 d1 d2 d3 d4 d5 q0 q1 hb hE hA hAb hal hr hro hW hp hil hE0 hVl hna hPg2
  rw [hW0] at v1
  go_enter_defers Tryz.func31, Tryz.ntmps31
  go_wp2_with fail
  rw [← hW0]
  refine (HFN.out W0 HW0.out.fr).mono ?_
  rintro e w1 ⟨rfl, hb1⟩
  rw [← hC]
  have HW1 := hid (HW0.out.step (Fr.below hb1 (Nat.le_of_lt HE0.out.lt)) HVL.out)
  have HE1 : Hid (EvAt w1 V fb pg 0 fuel) := (hb1.block _ HE0.out.lt).trans HE0.out
  clear hb1 HW0 HE0 HFN hW0 v1 hC
  go_wp2_with fail
  have hbA : Below w1.heap.size w1 (w1.alloc (.cells #[.string (bs g.name), .int .i64 (g.at' : Int), .slice a2 g.more.length c2, .pointer (some ⟨bb, 0, none⟩)] 82)) := (Below.refl _ _).alloc (Nat.le_refl _) _
  have HGW : Hid ((w1.alloc (.cells #[.string (bs g.name), .int .i64 (g.at' : Int), .slice a2 g.more.length c2, .pointer (some ⟨bb, 0, none⟩)] 82)).heap[w1.heap.size]? = some (.cells #[.string (bs g.name), .int .i64 (g.at' : Int), .slice a2 g.more.length c2, .pointer (some ⟨bb, 0, none⟩)] 82 (0, 0))) := heap_alloc_new w1 _
  have HW2 := hid (HW1.out.step (Fr.below hbA (Nat.le_of_lt HE1.out.lt)) HVL.out)
  have HE2 : Hid (EvAt (w1.alloc (.cells #[.string (bs g.name), .int .i64 (g.at' : Int), .slice a2 g.more.length c2, .pointer (some ⟨bb, 0, none⟩)] 82)) V fb pg 0 fuel) := (hbA.block _ HE1.out.lt).trans HE1.out
  obtain ⟨G, hG⟩ : ∃ G, G = w1.heap.size := ⟨_, rfl⟩
  rw [← hG] at HGW ⊢
  clear hbA HW1 HE1 hG
  generalize w1.alloc (.cells #[.string (bs g.name), .int .i64 (g.at' : Int), .slice a2 g.more.length c2, .pointer (some ⟨bb, 0, none⟩)] 82) = W2 at *
  obtain ⟨nm1, hn1⟩ : ∃ m, m = g.more.length := ⟨_, rfl⟩
  have hn4 : nm1 ≤ 4000 := by rw [hn1]; exact HFW.out.2.2.1
  have HNM := hid hn1
  have hna2 : na = nm1 := by rw [HNA.out, HAL.out, hn1]
  rw [← hn1]
  rw [← hn1] at HGW
  subst hna2
  clear hn1
  go_loopw [7, 20] (fun v iv wr => ∃ (j : Nat) (ao : Option Addr), j ≤ na ∧ iv = .int .i64 j ∧ v = .pointer ao ∧ Hid (ScP wr (.pointer ao) (mnS p g.more args j)) ∧ Hid (Below W2.heap.size W2 wr)) (fun _ iv _ => na - (intOf iv).toNat)
  case atStart => exact ⟨0, none, Nat.zero_le _, rfl, rfl, rfl, Below.refl _ _⟩
  case round =>
    obtain ⟨j, ao, hj, rfl, rfl, hso, hbel⟩ := hrel
    have hfr2 : Fr V w wr := HW2.out.fr.trans (Fr.below hbel.out (Nat.le_of_lt HE2.out.lt))
    have hB0 : Below w0.heap.size w0 wr := HB.out.trans (hfr2.1.mono hV0)
    have hEr : EvAt wr V fb pg 0 fuel := (hbel.out.block _ HE2.out.lt).trans HE2.out
    by_cases hlt : j < na
    · have hlt2 : (j : Int) < (na : Int) := by omega
      have hj0 : (0 : Int) ≤ (j : Int) := by omega
      have hks : IntKind.i64.wrap ((j : Int) + 1) = (j : Int) + 1 := by rw [IntKind.wrap_i64]; omega
      have hjm : j < g.more.length := by have := HNM.out; omega
      obtain ⟨x, hx⟩ : ∃ x, g.more[j]? = some x := ⟨_, List.getElem?_eq_getElem hjm⟩
      obtain ⟨gb, rfl, _, m0, m1⟩ := HND.out j x hx
      obtain ⟨ab, oo, rfl, hab, z0⟩ := HA.out j (by have := HNA.out; omega)
      have c0 := (hB0.cell (p := ⟨gb, j * 2, none⟩) (World.block_lt_of_cell? _ _ m0)).trans m0
      have c1 := (hB0.cell (p := ⟨gb, j * 2 + 1, none⟩) (World.block_lt_of_cell? _ _ m1)).trans m1
      have z1 := (hB0.cell (p := ⟨ab, oo + j, none⟩) hab).trans z0
      have pf := (hB0.cell (p := ⟨fb, 0, none⟩) (World.block_lt_of_cell? _ _ HP.out)).trans HP.out
      have v0 : wr.cell? ⟨V, 0, none⟩ = some (.pointer (some ⟨fb, 0, none⟩)) := by simp [World.cell?, show wr.heap[V]? = _ from hEr]
      have hbA : Below wr.heap.size wr (wr.alloc (.cells #[.string (bs x.1), .int .i64 (x.2 : Int)] 78)) := (Below.refl _ _).alloc (Nat.le_refl _) _
      have s0 : (wr.alloc (.cells #[.string (bs x.1), .int .i64 (x.2 : Int)] 78)).cell? ⟨wr.heap.size, 0, none⟩ = some (.string (bs x.1)) := by go_simp
      have s1 := (hbA.cell (p := ⟨V, 0, none⟩) hEr.lt).trans v0
      have s2 := (hbA.cell (p := ⟨ab, oo + j, none⟩) (World.block_lt_of_cell? _ _ z1)).trans z1
      have s3 := (hbA.cell (p := ⟨fb, 0, none⟩) (World.block_lt_of_cell? _ _ pf)).trans pf
      have HSA := hid (hso.out.below hbA)
      have HBA := hid (hbel.out.trans (hbA.mono hbel.out.size))
      have HX := hid hx
      have HZB := hid (HAB.out j)
      clear hx m0 m1 z0 z1 pf v0 hbA hjm hso hbel hfr2 hB0 hEr
      go_wp2_with fail
      obtain ⟨N, hN⟩ : ∃ N, N = wr.heap.size := ⟨_, rfl⟩
      rw [← hN] at s0 ⊢
      clear hN c0 c1
      generalize wr.alloc (.cells #[.string (bs x.1), .int .i64 (x.2 : Int)] 78) = wA at *
      refine wp_region_held_drew (S := (fun W => W.cell? ⟨N, 0, none⟩ = some (.string (bs x.1)) ∧ W.cell? ⟨V, 0, none⟩ = some (.pointer (some ⟨fb, 0, none⟩)) ∧ W.cell? ⟨ab, oo + j, none⟩ = some (.int .i64 (zat args j)) ∧ W.cell? ⟨fb, 0, none⟩ = some (.int .i64 p))) (by kernel_rfl) ⟨s0, s1, s2, s3⟩ (fun hHeld => ?_)
      refine wpAnyH_takeS (i := 0) (v := .pointer ao) rfl (by kernel_rfl) (by kernel_rfl) (by kernel_rfl) (fun c a w h => panic_putM 25 _ (by decide) (by decide) c a w h) (by rfl) (fun W hC => by go_simp) hHeld ?_
      simp only [Act.put, List.setIfInBounds_toArray, List.set_cons_zero, List.set_cons_succ]
      refine wpAnyH_takeS (i := 1) (v := .pointer (some ⟨N, 0, none⟩)) rfl (by kernel_rfl) (by kernel_rfl) (by kernel_rfl) (fun c a w h => panic_putM 26 _ (by decide) (by decide) c a w h) (by rfl) (fun W hC => by go_simp) hHeld ?_
      simp only [Act.put, List.setIfInBounds_toArray, List.set_cons_zero, List.set_cons_succ]
      refine wpAnyH_takeS (i := 2) (v := .string (bs x.1)) rfl (by kernel_rfl) (by kernel_rfl) (by kernel_rfl) (fun c a w h => panic_putM 27 _ (by decide) (by decide) c a w h) (by rfl) (fun W hC => by (obtain ⟨y0, y1, y2, y3⟩ := hC); go_simp) hHeld ?_
      simp only [Act.put, List.setIfInBounds_toArray, List.set_cons_zero, List.set_cons_succ]
      refine wpAnyH_takeS (i := 3) (v := .pointer (some ⟨V, 0, none⟩)) rfl (by kernel_rfl) (by kernel_rfl) (by kernel_rfl) (fun c a w h => panic_putM 28 _ (by decide) (by decide) c a w h) (by rfl) (fun W hC => by go_simp) hHeld ?_
      simp only [Act.put, List.setIfInBounds_toArray, List.set_cons_zero, List.set_cons_succ]
      refine wpAnyH_takeS (i := 4) (v := .pointer (some ⟨V, 0, none⟩)) rfl (by kernel_rfl) (by kernel_rfl) (by kernel_rfl) (fun c a w h => panic_putM 29 _ (by decide) (by decide) c a w h) (by rfl) (fun W hC => by go_simp) hHeld ?_
      simp only [Act.put, List.setIfInBounds_toArray, List.set_cons_zero, List.set_cons_succ]
      refine wpAnyH_takeS (i := 5) (v := .pointer (some ⟨V, 0, none⟩)) rfl (by kernel_rfl) (by kernel_rfl) (by kernel_rfl) (fun c a w h => panic_putM 30 _ (by decide) (by decide) c a w h) (by rfl) (fun W hC => by go_simp) hHeld ?_
      simp only [Act.put, List.setIfInBounds_toArray, List.set_cons_zero, List.set_cons_succ]
      refine wpAnyH_takeS (i := 6) (v := .pointer (some ⟨fb, 0, none⟩)) rfl (by kernel_rfl) (by kernel_rfl) (by kernel_rfl) (fun c a w h => panic_putM 31 _ (by decide) (by decide) c a w h) (by rfl) (fun W hC => by (obtain ⟨y0, y1, y2, y3⟩ := hC); go_simp) hHeld ?_
      simp only [Act.put, List.setIfInBounds_toArray, List.set_cons_zero, List.set_cons_succ]
      refine wpAnyH_takeS (i := 7) (v := .slice (some ⟨ab, oo, none⟩) na ca) rfl (by kernel_rfl) (by kernel_rfl) (by kernel_rfl) (fun c a w h => panic_putM 32 _ (by decide) (by decide) c a w h) (by rfl) (fun W hC => by go_simp) hHeld ?_
      simp only [Act.put, List.setIfInBounds_toArray, List.set_cons_zero, List.set_cons_succ]
      refine wpAnyH_takeS (i := 8) (v := .int .i64 (j : Int)) rfl (by kernel_rfl) (by kernel_rfl) (by kernel_rfl) (fun c a w h => panic_putM 33 _ (by decide) (by decide) c a w h) (by rfl) (fun W hC => by go_simp) hHeld ?_
      simp only [Act.put, List.setIfInBounds_toArray, List.set_cons_zero, List.set_cons_succ]
      refine wpAnyH_takeS (i := 9) (v := .pointer (some ⟨ab, oo + j, none⟩)) rfl (by kernel_rfl) (by kernel_rfl) (by kernel_rfl) (fun c a w h => panic_putM 34 _ (by decide) (by decide) c a w h) (by rfl) (fun W hC => by go_simp) hHeld ?_
      simp only [Act.put, List.setIfInBounds_toArray, List.set_cons_zero, List.set_cons_succ]
      refine wpAnyH_takeS (i := 10) (v := .int .i64 (zat args j)) rfl (by kernel_rfl) (by kernel_rfl) (by kernel_rfl) (fun c a w h => panic_putM 35 _ (by decide) (by decide) c a w h) (by rfl) (fun W hC => by (obtain ⟨y0, y1, y2, y3⟩ := hC); go_simp) hHeld ?_
      simp only [Act.put, List.setIfInBounds_toArray, List.set_cons_zero, List.set_cons_succ]
      refine wpAnyH_ready (rs := [11]) (by kernel_rfl) (by simp) ?_
      refine AllReadyH.consS rfl (fun K hK => ?_) AllReadyH.nil
      go_simp
      refine (of_any p fb (zat args j) wA.drew h3 h4 hHeld.2.2.2 HZB.out.1 HZB.out.2).mono ?_
      rintro e w3 ⟨rfl, rfl⟩
      refine hK.out _ _ hHeld (fun hHeld => ?_)
      clear hK K
      refine wpAnyH_ready (rs := [12]) (by kernel_rfl) (by simp) ?_
      refine AllReadyH.consS rfl (fun K hK => ?_) AllReadyH.nil
      go_simp
      refine (with_any (bs x.1) (zat args j % (p : Int)) ao wA.drew).mono ?_
      rintro e w4 ⟨rfl, rfl⟩
      have hbA4 : Below wA.drew.heap.size wA.drew (wA.drew.alloc (.cells #[.string (bs x.1), .int .i64 (zat args j % (p : Int)), .pointer ao] 208)) := (Below.refl _ _).alloc (Nat.le_refl _) _
      refine hK.out _ _ ⟨(hbA4.cell (p := ⟨N, 0, none⟩) (World.block_lt_of_cell? _ _ hHeld.1)).trans hHeld.1, (hbA4.cell (p := ⟨V, 0, none⟩) (World.block_lt_of_cell? _ _ hHeld.2.1)).trans hHeld.2.1, (hbA4.cell (p := ⟨ab, oo + j, none⟩) (World.block_lt_of_cell? _ _ hHeld.2.2.1)).trans hHeld.2.2.1, (hbA4.cell (p := ⟨fb, 0, none⟩) (World.block_lt_of_cell? _ _ hHeld.2.2.2)).trans hHeld.2.2.2⟩ (fun hHeld2 => ?_)
      clear hK K
      have HS4 : Hid (ScP (wA.drew.alloc (.cells #[.string (bs x.1), .int .i64 (zat args j % (p : Int)), .pointer ao] 208)) (.pointer (some ⟨wA.drew.heap.size, 0, none⟩)) (mnS p g.more args (j + 1))) := by
        unfold Hid
        rw [mnS, HX.out]
        exact ScP.with (HSA.out.below (belD (Below.refl _ _))) x.1 _
      have HB4 : Hid (Below W2.heap.size W2 (wA.drew.alloc (.cells #[.string (bs x.1), .int .i64 (zat args j % (p : Int)), .pointer ao] 208))) := (belD HBA.out).trans (hbA4.mono (belD HBA.out).size)
      clear hbA4 hHeld HSA HBA
      generalize wA.drew.alloc (.cells #[.string (bs x.1), .int .i64 (zat args j % (p : Int)), .pointer ao] 208) = w5 at *
      refine wpAnyH_ready (rs := [13]) (by kernel_rfl) (by simp) ?_
      refine AllReadyH.consS rfl (fun K hK => ?_) AllReadyH.nil
      go_simp
      refine hK.out _ _ hHeld2 (fun _ => ?_)
      clear hK K hHeld2 s0 s1 s2 s3
      refine wpAnyH_done (by kernel_rfl) ?_ _
      go_wp2_with fail
      go_roundw
      case rel => exact ⟨j + 1, _, by omega, by go_num, rfl, HS4, HB4⟩
      case measure => simp [intOf]; omega
    · obtain rfl : j = na := by omega
      have hlt2 : ¬ (j : Int) < (j : Int) := by omega
      have hHr : r = evl p fs fuel R g.body (mnS p g.more args j) 0 := by rw [HR.out, ← HNM.out]
      have hGr : wr.heap[G]? = _ := (hbel.out.block _ (Array.getElem?_eq_some_iff.1 HGW.out).1).trans HGW.out
      have c3 : wr.cell? ⟨G, 3, none⟩ = some (.pointer (some ⟨bb, 0, none⟩)) := by simp [World.cell?, hGr]
      have HC := hid (HIH.out g.body (.pointer (some ⟨bb, 0, none⟩)) ao (mnS p g.more args j) 0 wr hB0 hEr (Nat.zero_le _) (HPD.out.mono (Nat.zero_le _)) HFW.out.2.2.2 hso.out (mnS_bd p g.more args h3 j) (by rw [← hHr]; exact HRO.out))
      rw [← hHr] at HC
      have HWr := hid (HW2.out.step (Fr.below hbel.out (Nat.le_of_lt HE2.out.lt)) HVL.out)
      clear hHr hGr hso hbel hfr2 hB0 hEr HIH HR HW2 HE2 HGW HPD
      go_wp2_with fail
      refine HC.out.mono ?_
      intro e w3 he
      obtain ⟨hf3, he⟩ := he
      have HW3 := hid (HWr.out.step hf3 HVL.out)
      clear HC hf3 HWr
      cases r with
      | out => exact he.elim
      | stop er =>
        have he' : e = pncE er := he
        subst he'
        have HK1 : w3.cell? ⟨C, 0, none⟩ = some (.int .i64 0) := by simp [World.cell?, HW3.out.s1]
        have HK1' : w3.cell? ⟨C, 1, none⟩ = some (.int .i64 0) := by simp [World.cell?, HW3.out.s1]
        have HK2 := oneS_cell HW3.out.s2
        refine leaves_cons (f := 57) (args := #[.pointer (some ⟨C, 0, none⟩), .pointer (some ⟨C + 1, 0, none⟩)]) (by simp) (by simp [go_sem]) ?_
        refine (catchE_end C (C + 1) er _ _ _ w3 HK1 HK1' HK2 (fun i => frozen_of_row w3 C i _ _ HW3.out.s1) ((oneS_row HW3.out.s2).frozen 0) (by omega)).mono ?_
        rintro e u' w4 ⟨rfl, rfl, hw4⟩
        have HD4 : Hid (MnS C V (.int .i64 0) (.int .i64 0) (.iface 72 (.int .i64 (er : Int))) w w4) := by
          unfold Hid
          rw [hw4]
          have hV3 : V < w3.heap.size := Nat.lt_of_lt_of_le HVL.out HW3.out.fr.size
          exact ((HW3.out.step (Fr.below ((Below.refl _ w3).alloc (Nat.le_refl _) _) (Nat.le_of_lt hV3)) HVL.out).step (W' := (w3.alloc (.cells #[.int .i64 (er : Int)] 145)).drew) ⟨belD (Below.refl _ _), fun _ _ _ => rfl⟩ HVL.out).put HVL.out _ _ _
        have hE := (show MnR V w (.stop er) (.returned (.tuple #[.agg #[.int .i64 0, .int .i64 0], .iface 72 (.int .i64 (er : Int))])) w4 from ⟨HD4.out.fr, rfl⟩)
        have e1 := HD4.out.s1
        have e3 : w4.cell? ⟨C + 1, 0, none⟩ = some (.iface 72 (.int .i64 (er : Int))) := oneS_cell HD4.out.s2
        have k0 : w4.cell? ⟨C, 0, none⟩ = some (.int .i64 0) := by simp [World.cell?, e1]
        have k1 : w4.cell? ⟨C, 1, none⟩ = some (.int .i64 0) := by simp [World.cell?, e1]
        clear hw4 HD4 HW3 HK1 HK1' HK2 e1
        simp [Leaves, settle, results, Tryz.results31, go_sem, e3, k0, k1]
        exact hE
      | val v k3 =>
        obtain ⟨rfl, hE3⟩ := he
        have v2 : w3.cell? ⟨V, 2, none⟩ = some (.int .i64 (k3 : Int)) := by simp [World.cell?, show w3.heap[V]? = _ from hE3]
        have k0 : w3.cell? ⟨C, 0, none⟩ = some (.int .i64 0) := by simp [World.cell?, HW3.out.s1]
        have k1 : w3.cell? ⟨C, 1, none⟩ = some (.int .i64 0) := by simp [World.cell?, HW3.out.s1]
        have k2 := oneS_cell HW3.out.s2
        have f1 : ∀ i, w3.frozen? ⟨C, i, none⟩ = false := fun i => frozen_of_row w3 C i _ _ HW3.out.s1
        have f2 : ∀ i, w3.frozen? ⟨C + 1, i, none⟩ = false := (oneS_row HW3.out.s2).frozen
        obtain ⟨X, hX⟩ : ∃ X, X = ((w3.setCell ⟨C, 0, none⟩ (.int .i64 v)).setCell ⟨C, 1, none⟩ (.int .i64 (k3 : Int))).setCell ⟨C + 1, 0, none⟩ .nilIface := ⟨_, rfl⟩
        have HD4 : Hid (MnS C V (.int .i64 v) (.int .i64 (k3 : Int)) .nilIface w X) := by unfold Hid; rw [hX]; exact HW3.out.put HVL.out _ _ _
        have HCV : Hid (C ≠ V) := by have := HW3.out.hC; have := HVL.out; unfold Hid; omega
        clear hE3
        go_wp2_with fail
        rw [← hX]
        refine leaves_cons (f := 57) (args := #[.pointer (some ⟨C, 0, none⟩), .pointer (some ⟨C + 1, 0, none⟩)]) (by simp) (by simp [go_sem]) ?_
        refine (catchE_idle ⟨C, 0, none⟩ ⟨C + 1, 0, none⟩ X).mono ?_
        rintro e u' w4 ⟨rfl, rfl, hw4⟩
        rw [hw4]
        have hE := (show MnR V w (.val v k3) (.returned (.tuple #[.agg #[.int .i64 v, .int .i64 (k3 : Int)], .nilIface])) X from ⟨HD4.out.fr, rfl⟩)
        have e1 := HD4.out.s1
        have e3 : X.cell? ⟨C + 1, 0, none⟩ = some .nilIface := oneS_cell HD4.out.s2
        have j0 : X.cell? ⟨C, 0, none⟩ = some (.int .i64 v) := by simp [World.cell?, e1]
        have j1 : X.cell? ⟨C, 1, none⟩ = some (.int .i64 (k3 : Int)) := by simp [World.cell?, e1]
        clear hw4 HD4 HW3 k0 k1 k2 e1 f1 f2 hX v2
        simp [Leaves, settle, results, Tryz.results31, go_sem, e3, j0, j1]
        exact hE

end Go.Proofs.YtlgcmeachjjmgajGreatDoor
