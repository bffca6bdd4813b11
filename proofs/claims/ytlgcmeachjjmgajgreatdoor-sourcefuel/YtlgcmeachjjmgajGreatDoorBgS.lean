/- Package source: main. Package source: Eval. Package source: Parse and Eval, as laws ask for them. SourceFuel: the walk. -/
import Derived.Test.YtlgcmeachjjmgajGreatDoorBgR
import Derived.Laws.ResultCell
import Derived.Test.YtlgcmeachjjmgajGreatDoorBgH
namespace Go.Proofs.YtlgcmeachjjmgajGreatDoor
open Go.RowKit

/-- the first names of main, and what they stand for -/
def mnS (p : Nat) (more : List (List UInt8 × Nat)) (args : List Int) : Nat → List (List UInt8 × Int)
  | 0 => []
  | j + 1 => match more[j]? with
    | some m => (m.1, zat args j % (p : Int)) :: mnS p more args j
    | none => mnS p more args j
theorem mnS_bd (p : Nat) (more : List (List UInt8 × Nat)) (args : List Int) (h3 : 3 ≤ p) : ∀ j, ScB p (mnS p more args j)
  | 0 => by intro y hy; cases hy
  | j + 1 => by
    rw [mnS]
    split
    · intro y hy
      rcases List.mem_cons.1 hy with rfl | hy
      · exact ⟨Int.emod_nonneg _ (by omega), Int.emod_lt_of_pos _ (by omega)⟩
      · exact mnS_bd p more args h3 j y hy
    · exact mnS_bd p more args h3 j
theorem res_putM (t : Array Value) (d : Nat) (v : Value) (h4 : d ≠ 4) (h5 : d ≠ 5) : results Tryz.f31 (t.setIfInBounds d v) = results Tryz.f31 t := by
  have e : ∀ k, d ≠ k → (t.setIfInBounds d v)[k]? = t[k]? := fun k hk => Array.getElem?_setIfInBounds_ne hk
  simp [results, Tryz.results31, e 4 h4, e 5 h5]
theorem panic_putM {R : Ending → World → Prop} (d : Nat) (v : Value) (h4 : d ≠ 4) (h5 : d ≠ 5) (c : List PanicEntry) (a : Act) (w : World) (h : bodyPostD Tryz.prog Tryz.f31 R (.panic c) (a.put (some d) v) w) : bodyPostD Tryz.prog Tryz.f31 R (.panic c) a w :=
  leaves_sameS (res_putM a.tmps d v h4 h5) _ _ _ h
/-- how main ends -/
def MnR (V : Nat) (w : World) (r : ER Int) (e : Ending) (w' : World) : Prop := Fr V w w' ∧ match r with
  | .val x k => e = .returned (.tuple #[.agg #[.int .i64 x, .int .i64 (k : Int)], .nilIface])
  | .stop er => e = .returned (.tuple #[.agg #[.int .i64 0, .int .i64 0], .iface 72 (.int .i64 (er : Int))])
  | .out => False
/-- what stands in main -/
structure MnS (C V : Nat) (x y v : Value) (w W : World) : Prop where
  s1 : W.heap[C]? = some (.cells #[x, y] 36 (0, 0))
  s2 : W.heap[C + 1]? = some (.cells #[v] 28 (0, 0))
  fr : Fr V w W
  hC : w.heap.size ≤ C
theorem mnS_of (V : Nat) (w : World) (hV : V < w.heap.size) : MnS w.heap.size V (.int .i64 0) (.int .i64 0) .nilIface w ((w.alloc (.cells #[.int .i64 0, .int .i64 0] 36)).alloc (.cells #[.nilIface] 28)) := by
  obtain ⟨V1, h1⟩ : ∃ V, V = w.alloc (.cells #[.int .i64 0, .int .i64 0] 36) := ⟨_, rfl⟩
  rw [← h1]
  have e1 : V1.heap.size = w.heap.size + 1 := by rw [h1]; simp
  have b1 : Below w.heap.size w V1 := by rw [h1]; exact (Below.refl _ _).alloc (Nat.le_refl _) _
  have b2 : Below V1.heap.size V1 (V1.alloc (.cells #[.nilIface] 28)) := (Below.refl _ _).alloc (Nat.le_refl _) _
  have n1 : V1.heap[w.heap.size]? = some (.cells #[.int .i64 0, .int .i64 0] 36 (0, 0)) := by rw [h1]; exact heap_alloc_new w _
  exact ⟨(b2.block _ (by omega)).trans n1, by rw [← e1]; exact heap_alloc_new V1 _, Fr.below (b1.trans (b2.mono (by omega))) (Nat.le_of_lt hV), Nat.le_refl _⟩
theorem MnS.step {C V : Nat} {x y v : Value} {w W W' : World} (h : MnS C V x y v w W) (e : Fr V W W') (hV : V < w.heap.size) : MnS C V x y v w W' :=
  ⟨(e.2 C (Array.getElem?_eq_some_iff.1 h.s1).1 (by have := h.hC; omega)).trans h.s1, (e.2 (C + 1) (Array.getElem?_eq_some_iff.1 h.s2).1 (by have := h.hC; omega)).trans h.s2, h.fr.trans e, h.hC⟩
theorem MnS.put {C V : Nat} {x y v : Value} {w W : World} (h : MnS C V x y v w W) (hV : V < w.heap.size) (x' y' v' : Value) : MnS C V x' y' v' w (((W.setCell ⟨C, 0, none⟩ x').setCell ⟨C, 1, none⟩ y').setCell ⟨C + 1, 0, none⟩ v') := by
  have hc := h.hC
  have o1 : ∀ (X : World) (k g i : Nat) (u : Value), k ≠ g → (X.setCell ⟨g, i, none⟩ u).heap[k]? = X.heap[k]? := fun X k g i u hk => Below.heap_setCell _ _ _ _ hk
  refine ⟨?_, ?_, ((h.fr.setNew hc hV 0 x').setNew hc hV 1 y').setNew (Nat.le_succ_of_le hc) hV 0 v', hc⟩
  · rw [o1 _ _ _ _ _ (by omega)]
    exact heap_setCell_same _ C 1 _ _ _ (heap_setCell_same _ C 0 _ _ _ h.s1)
  · exact oneS_set (by rw [o1 _ _ _ _ _ (by omega), o1 _ _ _ _ _ (by omega)]; exact h.s2) v'

set_option maxRecDepth 100000 in
set_option maxHeartbeats 2000000 in
theorem main_of (p V fb pg fuel lo : Nat) (fs : List FnT) (w0 : World) (h3 : 3 ≤ p) (h4 : p ≤ 2147483647) (hpr : Num.Prime p) (hp : w0.cell? ⟨fb, 0, none⟩ = some (.int .i64 p)) (hV0 : w0.heap.size ≤ V) (hPg : PgAt lo w0 pg fs) (hW : ∀ g, g ∈ fs → FW g) (hf : fuel ≤ 1000000) (w : World) (hb : Below w0.heap.size w0 w) (hE : EvAt w V fb pg 0 fuel) (aa : Option Addr) (ca : Nat) (args : List Int) (hA : RowB w0.heap.size w0 aa args) (hAb : ∀ j, -9223372036854775808 ≤ zat args j ∧ zat args j ≤ 9223372036854775807)
    (g : FnT) (i : Nat) (hi : nmM fs fs.length mainW = some (i : Int)) (hgi : fs[i]? = some g) (hal : args.length = g.more.length) (R : Nat) (r : ER Int) (hr : r = evl p fs fuel R g.body (mnS p g.more args g.more.length) 0) (hro : r ≠ .out) :
    Calls Tryz.prog 31 #[.pointer (some ⟨V, 0, none⟩), .slice aa args.length ca] w (MnR V w r) := by
  have hmf : ∀ (fn : Fn) (first cap : Array Value) (w : World), (Instr.makeFunc fn first cap).run Tryz.prog w = .ok (.func fn first cap) w := fun _ _ _ _ => rfl
  have hVl := hE.lt
  obtain ⟨pa, pc, B, hpb, _, _, hcc, hF, hM⟩ := hPg
  have hPg2 : PgAt lo w0 pg fs := ⟨pa, pc, B, hpb, by assumption, by assumption, hcc, hF, hM⟩
  have HIH := hid (value_all p V fb pg fuel lo fs w0 h3 h4 hpr hp hV0 hPg2 hW hf R)
  have hil : i < fs.length := (List.getElem?_eq_some_iff.1 hgi).1
  obtain ⟨kb, a2, c2, bb, rfl, _, d0, d1, d2, d3, d4, d5⟩ := hF i g hgi
  have q0 : w0.cell? ⟨pg, 0, none⟩ = some (.slice (some ⟨kb, 0, none⟩) fs.length pc) := by simp [World.cell?, hpb]
  have q1 : w0.cell? ⟨pg, 1, none⟩ = some (.map (some B)) := by simp [World.cell?, hpb]
  have HFN : Hid (∀ W, Fr V w W → Calls Tryz.prog 56 #[.pointer (some ⟨pg, 0, none⟩), .string ⟨#[109, 97, 105, 110]⟩] W fun e w' => e = .returned (.agg #[.string (bs g.name), .int .i64 (g.at' : Int), .slice a2 g.more.length c2, .pointer (some ⟨bb, 0, none⟩)]) ∧ Below W.heap.size W w') := fun W hw => by
    have hB := hb.trans (hw.1.mono hV0)
    rw [mainS]
    exact function_at pg i fs.length pc kb B fs mainW g a2 c2 bb W ((hB.cell (p := ⟨pg, 0, none⟩) (World.block_lt_of_cell? _ _ q0)).trans q0) ((hB.cell (p := ⟨pg, 1, none⟩) (World.block_lt_of_cell? _ _ q1)).trans q1) hil (hM.below hB) hi (by decide) ((hB.cell (p := ⟨kb, i * 4, none⟩) (World.block_lt_of_cell? _ _ d0)).trans d0) ((hB.cell (p := ⟨kb, i * 4 + 1, none⟩) (World.block_lt_of_cell? _ _ d1)).trans d1) ((hB.cell (p := ⟨kb, i * 4 + 2, none⟩) (World.block_lt_of_cell? _ _ d2)).trans d2) ((hB.cell (p := ⟨kb, i * 4 + 3, none⟩) (World.block_lt_of_cell? _ _ d3)).trans d3)
  have HW0 := hid (mnS_of V w hVl)
  obtain ⟨W0, hW0⟩ : ∃ W0, W0 = (w.alloc (.cells #[.int .i64 0, .int .i64 0] 36)).alloc (.cells #[.nilIface] 28) := ⟨_, rfl⟩
  rw [← hW0] at HW0
  obtain ⟨C, hC⟩ : ∃ C, C = w.heap.size := ⟨_, rfl⟩
  rw [← hC] at HW0
  have hE0 : EvAt W0 V fb pg 0 fuel := by
    have : Below w.heap.size w W0 := by rw [hW0]; exact ((Below.refl _ w).alloc (Nat.le_refl _) _).alloc (by simp) _
    exact (this.block _ hVl).trans hE
  have v1 : W0.cell? ⟨V, 1, none⟩ = some (.pointer (some ⟨pg, 0, none⟩)) := by simp [World.cell?, show W0.heap[V]? = _ from hE0]
  have HE0 := hid hE0
  have HND := hid d4
  have HPD := hid d5
  have HB := hid hb
  have HA := hid hA
  have HAB := hid hAb
  have HAL := hid hal
  have HR := hid hr
  have HRO := hid hro
  have HFW := hid (hW g (List.mem_of_getElem? hgi))
  have HP := hid hp
  have HVL := hid hVl
  obtain ⟨na, hna⟩ : ∃ na, na = args.length := ⟨_, rfl⟩
  have HNA := hid hna
  rw [← hna]
  clear hgi hi hpb hcc hF hM d0 d1 d2 d3 d4 d5 q0 q1 hb hE hA hAb hal hr hro hW hp hil hE0 hVl hna hPg2
  rw [hW0] at v1
  go_enter_defers Tryz.func31, Tryz.ntmps31
  go_wp2_with fail
  rw [← hW0]
  refine (HFN.out W0 HW0.out.fr).mono ?_
  rintro e w1 ⟨rfl, hb1⟩
  rw [← hC]
  have HW1 := hid (HW0.out.step (Fr.below hb1 (Nat.le_of_lt HE0.out.lt)) HVL.out)
  have HE1 : Hid (EvAt w1 V fb pg 0 fuel) := (hb1.block _ HE0.out.lt).trans HE0.out
  clear hb1 HW0 HE0 HFN hW0 v1 hC
  go_wp2_with fail
  have hbA : Below w1.heap.size w1 (w1.alloc (.cells #[.string (bs g.name), .int .i64 (g.at' : Int), .slice a2 g.more.length c2, .pointer (some ⟨bb, 0, none⟩)] 82)) := (Below.refl _ _).alloc (Nat.le_refl _) _
  have HGW : Hid ((w1.alloc (.cells #[.string (bs g.name), .int .i64 (g.at' : Int), .slice a2 g.more.length c2, .pointer (some ⟨bb, 0, none⟩)] 82)).heap[w1.heap.size]? = some (.cells #[.string (bs g.name), .int .i64 (g.at' : Int), .slice a2 g.more.length c2, .pointer (some ⟨bb, 0, none⟩)] 82 (0, 0))) := heap_alloc_new w1 _
  have HW2 := hid (HW1.out.step (Fr.below hbA (Nat.le_of_lt HE1.out.lt)) HVL.out)
  have HE2 : Hid (EvAt (w1.alloc (.cells #[.string (bs g.name), .int .i64 (g.at' : Int), .slice a2 g.more.length c2, .pointer (some ⟨bb, 0, none⟩)] 82)) V fb pg 0 fuel) := (hbA.block _ HE1.out.lt).trans HE1.out
  obtain ⟨G, hG⟩ : ∃ G, G = w1.heap.size := ⟨_, rfl⟩
  rw [← hG] at HGW ⊢
  clear hbA HW1 HE1 hG
  generalize w1.alloc (.cells #[.string (bs g.name), .int .i64 (g.at' : Int), .slice a2 g.more.length c2, .pointer (some ⟨bb, 0, none⟩)] 82) = W2 at *
  obtain ⟨nm1, hn1⟩ : ∃ m, m = g.more.length := ⟨_, rfl⟩
  have hn4 : nm1 ≤ 4000 := by rw [hn1]; exact HFW.out.2.2.1
  have HNM := hid hn1
  have hna2 : na = nm1 := by rw [HNA.out, HAL.out, hn1]
  rw [← hn1]
  rw [← hn1] at HGW
  subst hna2
  clear hn1
  go_loopw [7, 20] (fun v iv wr => ∃ (j : Nat) (ao : Option Addr), j ≤ na ∧ iv = .int .i64 j ∧ v = .pointer ao ∧ Hid (ScP wr (.pointer ao) (mnS p g.more args j)) ∧ Hid (Below W2.heap.size W2 wr)) (fun _ iv _ => na - (intOf iv).toNat)
  case atStart => exact ⟨0, none, Nat.zero_le _, rfl, rfl, rfl, Below.refl _ _⟩
  case round =>
    obtain ⟨j, ao, hj, rfl, rfl, hso, hbel⟩ := hrel
    have hfr2 : Fr V w wr := HW2.out.fr.trans (Fr.below hbel.out (Nat.le_of_lt HE2.out.lt))
    have hB0 : Below w0.heap.size w0 wr := HB.out.trans (hfr2.1.mono hV0)
    have hEr : EvAt wr V fb pg 0 fuel := (hbel.out.block _ HE2.out.lt).trans HE2.out
    by_cases hlt : j < na
    · have hlt2 : (j : Int) < (na : Int) := by omega
      have hj0 : (0 : Int) ≤ (j : Int) := by omega
      have hks : IntKind.i64.wrap ((j : Int) + 1) = (j : Int) + 1 := by rw [IntKind.wrap_i64]; omega
      have hjm : j < g.more.length := by have := HNM.out; omega
      obtain ⟨x, hx⟩ : ∃ x, g.more[j]? = some x := ⟨_, List.getElem?_eq_getElem hjm⟩
      obtain ⟨gb, rfl, _, m0, m1⟩ := HND.out j x hx
      obtain ⟨ab, oo, rfl, hab, z0⟩ := HA.out j (by have := HNA.out; omega)
      have c0 := (hB0.cell (p := ⟨gb, j * 2, none⟩) (World.block_lt_of_cell? _ _ m0)).trans m0
      have c1 := (hB0.cell (p := ⟨gb, j * 2 + 1, none⟩) (World.block_lt_of_cell? _ _ m1)).trans m1
      have z1 := (hB0.cell (p := ⟨ab, oo + j, none⟩) hab).trans z0
      have pf := (hB0.cell (p := ⟨fb, 0, none⟩) (World.block_lt_of_cell? _ _ HP.out)).trans HP.out
      have v0 : wr.cell? ⟨V, 0, none⟩ = some (.pointer (some ⟨fb, 0, none⟩)) := by simp [World.cell?, show wr.heap[V]? = _ from hEr]
      have hbA : Below wr.heap.size wr (wr.alloc (.cells #[.string (bs x.1), .int .i64 (x.2 : Int)] 78)) := (Below.refl _ _).alloc (Nat.le_refl _) _
      have s0 : (wr.alloc (.cells #[.string (bs x.1), .int .i64 (x.2 : Int)] 78)).cell? ⟨wr.heap.size, 0, none⟩ = some (.string (bs x.1)) := by go_simp
      have s1 := (hbA.cell (p := ⟨V, 0, none⟩) hEr.lt).trans v0
      have s2 := (hbA.cell (p := ⟨ab, oo + j, none⟩) (World.block_lt_of_cell? _ _ z1)).trans z1
      have s3 := (hbA.cell (p := ⟨fb, 0, none⟩) (World.block_lt_of_cell? _ _ pf)).trans pf
      have HSA := hid (hso.out.below hbA)
      have HBA := hid (hbel.out.trans (hbA.mono hbel.out.size))
      have HX := hid hx
      have HZB := hid (HAB.out j)
      clear hx m0 m1 z0 z1 pf v0 hbA hjm hso hbel hfr2 hB0 hEr
      go_wp2_with fail
      obtain ⟨N, hN⟩ : ∃ N, N = wr.heap.size := ⟨_, rfl⟩
      rw [← hN] at s0 ⊢
      clear hN c0 c1
      generalize wr.alloc (.cells #[.string (bs x.1), .int .i64 (x.2 : Int)] 78) = wA at *
      refine wp_region_held_drew (S := (fun W => W.cell? ⟨N, 0, none⟩ = some (.string (bs x.1)) ∧ W.cell? ⟨V, 0, none⟩ = some (.pointer (some ⟨fb, 0, none⟩)) ∧ W.cell? ⟨ab, oo + j, none⟩ = some (.int .i64 (zat args j)) ∧ W.cell? ⟨fb, 0, none⟩ = some (.int .i64 p))) (by kernel_rfl) ⟨s0, s1, s2, s3⟩ (fun hHeld => ?_)
      refine wpAnyH_takeS (i := 0) (v := .pointer ao) rfl (by kernel_rfl) (by kernel_rfl) (by kernel_rfl) (fun c a w h => panic_putM 25 _ (by decide) (by decide) c a w h) (by rfl) (fun W hC => by go_simp) hHeld ?_
      simp only [Act.put, List.setIfInBounds_toArray, List.set_cons_zero, List.set_cons_succ]
      refine wpAnyH_takeS (i := 1) (v := .pointer (some ⟨N, 0, none⟩)) rfl (by kernel_rfl) (by kernel_rfl) (by kernel_rfl) (fun c a w h => panic_putM 26 _ (by decide) (by decide) c a w h) (by rfl) (fun W hC => by go_simp) hHeld ?_
      simp only [Act.put, List.setIfInBounds_toArray, List.set_cons_zero, List.set_cons_succ]
      refine wpAnyH_takeS (i := 2) (v := .string (bs x.1)) rfl (by kernel_rfl) (by kernel_rfl) (by kernel_rfl) (fun c a w h => panic_putM 27 _ (by decide) (by decide) c a w h) (by rfl) (fun W hC => by (obtain ⟨y0, y1, y2, y3⟩ := hC); go_simp) hHeld ?_
      simp only [Act.put, List.setIfInBounds_toArray, List.set_cons_zero, List.set_cons_succ]
      refine wpAnyH_takeS (i := 3) (v := .pointer (some ⟨V, 0, none⟩)) rfl (by kernel_rfl) (by kernel_rfl) (by kernel_rfl) (fun c a w h => panic_putM 28 _ (by decide) (by decide) c a w h) (by rfl) (fun W hC => by go_simp) hHeld ?_
      simp only [Act.put, List.setIfInBounds_toArray, List.set_cons_zero, List.set_cons_succ]
      refine wpAnyH_takeS (i := 4) (v := .pointer (some ⟨V, 0, none⟩)) rfl (by kernel_rfl) (by kernel_rfl) (by kernel_rfl) (fun c a w h => panic_putM 29 _ (by decide) (by decide) c a w h) (by rfl) (fun W hC => by go_simp) hHeld ?_
      simp only [Act.put, List.setIfInBounds_toArray, List.set_cons_zero, List.set_cons_succ]
      refine wpAnyH_takeS (i := 5) (v := .pointer (some ⟨V, 0, none⟩)) rfl (by kernel_rfl) (by kernel_rfl) (by kernel_rfl) (fun c a w h => panic_putM 30 _ (by decide) (by decide) c a w h) (by rfl) (fun W hC => by go_simp) hHeld ?_
      simp only [Act.put, List.setIfInBounds_toArray, List.set_cons_zero, List.set_cons_succ]
      refine wpAnyH_takeS (i := 6) (v := .pointer (some ⟨fb, 0, none⟩)) rfl (by kernel_rfl) (by kernel_rfl) (by kernel_rfl) (fun c a w h => panic_putM 31 _ (by decide) (by decide) c a w h) (by rfl) (fun W hC => by (obtain ⟨y0, y1, y2, y3⟩ := hC); go_simp) hHeld ?_
      simp only [Act.put, List.setIfInBounds_toArray, List.set_cons_zero, List.set_cons_succ]
      refine wpAnyH_takeS (i := 7) (v := .slice (some ⟨ab, oo, none⟩) na ca) rfl (by kernel_rfl) (by kernel_rfl) (by kernel_rfl) (fun c a w h => panic_putM 32 _ (by decide) (by decide) c a w h) (by rfl) (fun W hC => by go_simp) hHeld ?_
      simp only [Act.put, List.setIfInBounds_toArray, List.set_cons_zero, List.set_cons_succ]
      refine wpAnyH_takeS (i := 8) (v := .int .i64 (j : Int)) rfl (by kernel_rfl) (by kernel_rfl) (by kernel_rfl) (fun c a w h => panic_putM 33 _ (by decide) (by decide) c a w h) (by rfl) (fun W hC => by go_simp) hHeld ?_
      simp only [Act.put, List.setIfInBounds_toArray, List.set_cons_zero, List.set_cons_succ]
      refine wpAnyH_takeS (i := 9) (v := .pointer (some ⟨ab, oo + j, none⟩)) rfl (by kernel_rfl) (by kernel_rfl) (by kernel_rfl) (fun c a w h => panic_putM 34 _ (by decide) (by decide) c a w h) (by rfl) (fun W hC => by go_simp) hHeld ?_
      simp only [Act.put, List.setIfInBounds_toArray, List.set_cons_zero, List.set_cons_succ]
      refine wpAnyH_takeS (i := 10) (v := .int .i64 (zat args j)) rfl (by kernel_rfl) (by kernel_rfl) (by kernel_rfl) (fun c a w h => panic_putM 35 _ (by decide) (by decide) c a w h) (by rfl) (fun W hC => by (obtain ⟨y0, y1, y2, y3⟩ := hC); go_simp) hHeld ?_
      simp only [Act.put, List.setIfInBounds_toArray, List.set_cons_zero, List.set_cons_succ]
      refine wpAnyH_ready (rs := [11]) (by kernel_rfl) (by simp) ?_
      refine AllReadyH.consS rfl (fun K hK => ?_) AllReadyH.nil
      go_simp
      refine (of_any p fb (zat args j) wA.drew h3 h4 hHeld.2.2.2 HZB.out.1 HZB.out.2).mono ?_
      rintro e w3 ⟨rfl, rfl⟩
      refine hK.out _ _ hHeld (fun hHeld => ?_)
      clear hK K
      refine wpAnyH_ready (rs := [12]) (by kernel_rfl) (by simp) ?_
      refine AllReadyH.consS rfl (fun K hK => ?_) AllReadyH.nil
      go_simp
      refine (with_any (bs x.1) (zat args j % (p : Int)) ao wA.drew).mono ?_
      rintro e w4 ⟨rfl, rfl⟩
      have hbA4 : Below wA.drew.heap.size wA.drew (wA.drew.alloc (.cells #[.string (bs x.1), .int .i64 (zat args j % (p : Int)), .pointer ao] 208)) := (Below.refl _ _).alloc (Nat.le_refl _) _
      refine hK.out _ _ ⟨(hbA4.cell (p := ⟨N, 0, none⟩) (World.block_lt_of_cell? _ _ hHeld.1)).trans hHeld.1, (hbA4.cell (p := ⟨V, 0, none⟩) (World.block_lt_of_cell? _ _ hHeld.2.1)).trans hHeld.2.1, (hbA4.cell (p := ⟨ab, oo + j, none⟩) (World.block_lt_of_cell? _ _ hHeld.2.2.1)).trans hHeld.2.2.1, (hbA4.cell (p := ⟨fb, 0, none⟩) (World.block_lt_of_cell? _ _ hHeld.2.2.2)).trans hHeld.2.2.2⟩ (fun hHeld2 => ?_)
      clear hK K
      have HS4 : Hid (ScP (wA.drew.alloc (.cells #[.string (bs x.1), .int .i64 (zat args j % (p : Int)), .pointer ao] 208)) (.pointer (some ⟨wA.drew.heap.size, 0, none⟩)) (mnS p g.more args (j + 1))) := by
        unfold Hid
        rw [mnS, HX.out]
        exact ScP.with (HSA.out.below (belD (Below.refl _ _))) x.1 _
      have HB4 : Hid (Below W2.heap.size W2 (wA.drew.alloc (.cells #[.string (bs x.1), .int .i64 (zat args j % (p : Int)), .pointer ao] 208))) := (belD HBA.out).trans (hbA4.mono (belD HBA.out).size)
      clear hbA4 hHeld HSA HBA
      generalize wA.drew.alloc (.cells #[.string (bs x.1), .int .i64 (zat args j % (p : Int)), .pointer ao] 208) = w5 at *
      refine wpAnyH_ready (rs := [13]) (by kernel_rfl) (by simp) ?_
      refine AllReadyH.consS rfl (fun K hK => ?_) AllReadyH.nil
      go_simp
      refine hK.out _ _ hHeld2 (fun _ => ?_)
      clear hK K hHeld2 s0 s1 s2 s3
      refine wpAnyH_done (by kernel_rfl) ?_ _
      go_wp2_with fail
      go_roundw
      case rel => exact ⟨j + 1, _, by omega, by go_num, rfl, HS4, HB4⟩
      case measure => simp [intOf]; omega
    · obtain rfl : j = na := by omega
      have hlt2 : ¬ (j : Int) < (j : Int) := by omega
      have hHr : r = evl p fs fuel R g.body (mnS p g.more args j) 0 := by rw [HR.out, ← HNM.out]
      have hGr : wr.heap[G]? = _ := (hbel.out.block _ (Array.getElem?_eq_some_iff.1 HGW.out).1).trans HGW.out
      have c3 : wr.cell? ⟨G, 3, none⟩ = some (.pointer (some ⟨bb, 0, none⟩)) := by simp [World.cell?, hGr]
      have HC := hid (HIH.out g.body (.pointer (some ⟨bb, 0, none⟩)) ao (mnS p g.more args j) 0 wr hB0 hEr (Nat.zero_le _) (HPD.out.mono (Nat.zero_le _)) HFW.out.2.2.2 hso.out (mnS_bd p g.more args h3 j) (by rw [← hHr]; exact HRO.out))
      rw [← hHr] at HC
      have HWr := hid (HW2.out.step (Fr.below hbel.out (Nat.le_of_lt HE2.out.lt)) HVL.out)
      clear hHr hGr hso hbel hfr2 hB0 hEr HIH HR HW2 HE2 HGW HPD
      go_wp2_with fail
      refine HC.out.mono ?_
      intro e w3 he
      obtain ⟨hf3, he⟩ := he
      have HW3 := hid (HWr.out.step hf3 HVL.out)
      clear HC hf3 HWr
      cases r with
      | out => exact he.elim
      | stop er =>
        have he' : e = pncE er := he
        subst he'
        have HK1 : w3.cell? ⟨C, 0, none⟩ = some (.int .i64 0) := by simp [World.cell?, HW3.out.s1]
        have HK1' : w3.cell? ⟨C, 1, none⟩ = some (.int .i64 0) := by simp [World.cell?, HW3.out.s1]
        have HK2 := oneS_cell HW3.out.s2
        refine leaves_cons (f := 57) (args := #[.pointer (some ⟨C, 0, none⟩), .pointer (some ⟨C + 1, 0, none⟩)]) (by simp) (by simp [go_sem]) ?_
        refine (catchE_end C (C + 1) er _ _ _ w3 HK1 HK1' HK2 (fun i => frozen_of_row w3 C i _ _ HW3.out.s1) ((oneS_row HW3.out.s2).frozen 0) (by omega)).mono ?_
        rintro e u' w4 ⟨rfl, rfl, hw4⟩
        have HD4 : Hid (MnS C V (.int .i64 0) (.int .i64 0) (.iface 72 (.int .i64 (er : Int))) w w4) := by
          unfold Hid
          rw [hw4]
          have hV3 : V < w3.heap.size := Nat.lt_of_lt_of_le HVL.out HW3.out.fr.size
          exact ((HW3.out.step (Fr.below ((Below.refl _ w3).alloc (Nat.le_refl _) _) (Nat.le_of_lt hV3)) HVL.out).step (W' := (w3.alloc (.cells #[.int .i64 (er : Int)] 145)).drew) ⟨belD (Below.refl _ _), fun _ _ _ => rfl⟩ HVL.out).put HVL.out _ _ _
        have hE := (show MnR V w (.stop er) (.returned (.tuple #[.agg #[.int .i64 0, .int .i64 0], .iface 72 (.int .i64 (er : Int))])) w4 from ⟨HD4.out.fr, rfl⟩)
        have e1 := HD4.out.s1
        have e3 : w4.cell? ⟨C + 1, 0, none⟩ = some (.iface 72 (.int .i64 (er : Int))) := oneS_cell HD4.out.s2
        have k0 : w4.cell? ⟨C, 0, none⟩ = some (.int .i64 0) := by simp [World.cell?, e1]
        have k1 : w4.cell? ⟨C, 1, none⟩ = some (.int .i64 0) := by simp [World.cell?, e1]
        clear hw4 HD4 HW3 HK1 HK1' HK2 e1
        simp [Leaves, settle, results, Tryz.results31, go_sem, e3, k0, k1]
        exact hE
      | val v k3 =>
        obtain ⟨rfl, hE3⟩ := he
        have v2 : w3.cell? ⟨V, 2, none⟩ = some (.int .i64 (k3 : Int)) := by simp [World.cell?, show w3.heap[V]? = _ from hE3]
        have k0 : w3.cell? ⟨C, 0, none⟩ = some (.int .i64 0) := by simp [World.cell?, HW3.out.s1]
        have k1 : w3.cell? ⟨C, 1, none⟩ = some (.int .i64 0) := by simp [World.cell?, HW3.out.s1]
        have k2 := oneS_cell HW3.out.s2
        have f1 : ∀ i, w3.frozen? ⟨C, i, none⟩ = false := fun i => frozen_of_row w3 C i _ _ HW3.out.s1
        have f2 : ∀ i, w3.frozen? ⟨C + 1, i, none⟩ = false := (oneS_row HW3.out.s2).frozen
        obtain ⟨X, hX⟩ : ∃ X, X = ((w3.setCell ⟨C, 0, none⟩ (.int .i64 v)).setCell ⟨C, 1, none⟩ (.int .i64 (k3 : Int))).setCell ⟨C + 1, 0, none⟩ .nilIface := ⟨_, rfl⟩
        have HD4 : Hid (MnS C V (.int .i64 v) (.int .i64 (k3 : Int)) .nilIface w X) := by unfold Hid; rw [hX]; exact HW3.out.put HVL.out _ _ _
        have HCV : Hid (C ≠ V) := by have := HW3.out.hC; have := HVL.out; unfold Hid; omega
        clear hE3
        go_wp2_with fail
        rw [← hX]
        refine leaves_cons (f := 57) (args := #[.pointer (some ⟨C, 0, none⟩), .pointer (some ⟨C + 1, 0, none⟩)]) (by simp) (by simp [go_sem]) ?_
        refine (catchE_idle ⟨C, 0, none⟩ ⟨C + 1, 0, none⟩ X).mono ?_
        rintro e u' w4 ⟨rfl, rfl, hw4⟩
        rw [hw4]
        have hE := (show MnR V w (.val v k3) (.returned (.tuple #[.agg #[.int .i64 v, .int .i64 (k3 : Int)], .nilIface])) X from ⟨HD4.out.fr, rfl⟩)
        have e1 := HD4.out.s1
        have e3 : X.cell? ⟨C + 1, 0, none⟩ = some .nilIface := oneS_cell HD4.out.s2
        have j0 : X.cell? ⟨C, 0, none⟩ = some (.int .i64 v) := by simp [World.cell?, e1]
        have j1 : X.cell? ⟨C, 1, none⟩ = some (.int .i64 (k3 : Int)) := by simp [World.cell?, e1]
        clear hw4 HD4 HW3 k0 k1 k2 e1 f1 f2 hX v2
        simp [Leaves, settle, results, Tryz.results31, go_sem, e3, j0, j1]
        exact hE

end Go.Proofs.YtlgcmeachjjmgajGreatDoor

namespace Go.Proofs.YtlgcmeachjjmgajGreatDoor
open Go.RowKit

/-- how Eval ends -/
def ElR (n m : Nat) (fuel : Int) (w : World) (r : ER Int) (e : Ending) (w' : World) : Prop := Below w.heap.size w w' ∧
  if n ≠ m then e = .returned (.tuple #[.agg #[.int .i64 0, .int .i64 0], .iface 72 (.int .i64 2)])
  else if fuel < 0 ∨ 16384 < fuel then e = .returned (.tuple #[.agg #[.int .i64 0, .int .i64 0], .iface 72 (.int .i64 3)])
  else match r with
  | .val x k => e = .returned (.tuple #[.agg #[.int .i64 x, .int .i64 (k : Int)], .nilIface])
  | .stop er => e = .returned (.tuple #[.agg #[.int .i64 0, .int .i64 0], .iface 72 (.int .i64 (er : Int))])
  | .out => False

set_option maxRecDepth 100000 in
set_option maxHeartbeats 2000000 in
theorem eval_size (fb pg lo i : Nat) (fs : List FnT) (g : FnT) (w : World) (hPg : PgAt lo w pg fs) (hi : nmM fs fs.length mainW = some (i : Int)) (hgi : fs[i]? = some g) (aa : Option Addr) (ca na : Nat) (fuel : Int) (r : ER Int) (hne : na ≠ g.more.length) :
    Calls Tryz.prog 11 #[.pointer (some ⟨pg, 0, none⟩), .pointer (some ⟨fb, 0, none⟩), .slice aa na ca, .int .i64 fuel] w (ElR na g.more.length fuel w r) := by
  have hbA : Below w.heap.size w (w.alloc (.cells #[.int .i64 0, .int .i64 0] 36)) := (Below.refl _ w).alloc (Nat.le_refl _) _
  have hPA : PgAt lo (w.alloc (.cells #[.int .i64 0, .int .i64 0] 36)) pg fs := by
    obtain ⟨pa, pc, B, h1, h2, h3, h4, h5, h6⟩ := hPg
    exact ⟨pa, pc, B, (hbA.block _ (Array.getElem?_eq_some_iff.1 h1).1).trans h1, h2, h3, h4, h5.below hbA, h6.below hbA⟩
  have HAR := hid (args_any lo pg i fs g _ hPA hi hgi)
  have HNE := hid hne
  have q : ((na : Int) != (g.more.length : Int)) = true := by simp; omega
  have hz : (w.alloc (.cells #[.int .i64 0, .int .i64 0] 36)).heap[w.heap.size]? = some (.cells #[.int .i64 0, .int .i64 0] 36 (0, 0)) := heap_alloc_new w _
  have HZ := hid hz
  have HBA := hid hbA
  obtain ⟨m, hm⟩ : ∃ m, m = g.more.length := ⟨_, rfl⟩
  rw [← hm] at HAR HNE q ⊢
  clear hPA hPg hi hgi hne hz hbA hm
  go_enter Tryz.func11, Tryz.ntmps11
  go_wp2_with fail
  refine HAR.out.mono ?_
  rintro e w1 ⟨rfl, hb1⟩
  have hz1 : w1.heap[w.heap.size]? = _ := (hb1.block _ (by simp)).trans HZ.out
  have HB1 := hid (HBA.out.trans (hb1.mono HBA.out.size))
  obtain ⟨C, hC⟩ : ∃ C, C = w.heap.size := ⟨_, rfl⟩
  rw [← hC] at hz1 ⊢
  have HCC := hid hC
  have c0 : w1.cell? ⟨C, 0, none⟩ = some (.int .i64 0) := by simp [World.cell?, hz1]
  have c1 : w1.cell? ⟨C, 1, none⟩ = some (.int .i64 0) := by simp [World.cell?, hz1]
  have f1 : ∀ i, w1.frozen? ⟨C, i, none⟩ = false := fun i => frozen_of_row w1 C i _ _ hz1
  have HZ1 := hid hz1
  clear hb1 HAR hz1 hC HZ HBA
  go_wp2_with fail
  obtain ⟨X, hX⟩ : ∃ X, X = (w1.setCell ⟨C, 0, none⟩ (.int .i64 0)).setCell ⟨C, 1, none⟩ (.int .i64 0) := ⟨_, rfl⟩
  rw [← hX]
  have e1 : X.heap[C]? = some (.cells #[.int .i64 0, .int .i64 0] 36 (0, 0)) := by rw [hX]; exact heap_setCell_same _ C 1 _ _ _ (heap_setCell_same _ C 0 _ _ _ HZ1.out)
  have hBX : Below w.heap.size w X := by rw [hX]; exact (HB1.out.setCell (p := ⟨C, 0, none⟩) (Nat.le_of_eq HCC.out.symm) _).setCell (p := ⟨C, 1, none⟩) (Nat.le_of_eq HCC.out.symm) _
  have j0 : X.cell? ⟨C, 0, none⟩ = some (.int .i64 0) := by simp [World.cell?, e1]
  have j1 : X.cell? ⟨C, 1, none⟩ = some (.int .i64 0) := by simp [World.cell?, e1]
  have hE : ElR na m fuel w r (.returned (.tuple #[.agg #[.int .i64 0, .int .i64 0], .iface 72 (.int .i64 2)])) X := ⟨hBX, by rw [if_pos HNE.out]⟩
  clear hX e1 hBX c0 c1 f1 HZ1
  simp [bodyPost, results, Tryz.results11, go_sem, j0, j1]
  exact hE

set_option maxRecDepth 100000 in
set_option maxHeartbeats 2000000 in
theorem eval_range (fb pg lo i : Nat) (fs : List FnT) (g : FnT) (w : World) (hPg : PgAt lo w pg fs) (hi : nmM fs fs.length mainW = some (i : Int)) (hgi : fs[i]? = some g) (aa : Option Addr) (ca na : Nat) (fuel : Int) (r : ER Int) (hne : na = g.more.length) (hfu : fuel < 0 ∨ 16384 < fuel) :
    Calls Tryz.prog 11 #[.pointer (some ⟨pg, 0, none⟩), .pointer (some ⟨fb, 0, none⟩), .slice aa na ca, .int .i64 fuel] w (ElR na g.more.length fuel w r) := by
  have hbA : Below w.heap.size w (w.alloc (.cells #[.int .i64 0, .int .i64 0] 36)) := (Below.refl _ w).alloc (Nat.le_refl _) _
  have hPA : PgAt lo (w.alloc (.cells #[.int .i64 0, .int .i64 0] 36)) pg fs := by
    obtain ⟨pa, pc, B, h1, h2, h3, h4, h5, h6⟩ := hPg
    exact ⟨pa, pc, B, (hbA.block _ (Array.getElem?_eq_some_iff.1 h1).1).trans h1, h2, h3, h4, h5.below hbA, h6.below hbA⟩
  have HAR := hid (args_any lo pg i fs g _ hPA hi hgi)
  have HNE := hid hne
  have q : ((na : Int) != (g.more.length : Int)) = false := by simp; omega
  have HFU := hid hfu
  have hz : (w.alloc (.cells #[.int .i64 0, .int .i64 0] 36)).heap[w.heap.size]? = some (.cells #[.int .i64 0, .int .i64 0] 36 (0, 0)) := heap_alloc_new w _
  have HZ := hid hz
  have HBA := hid hbA
  obtain ⟨m, hm⟩ : ∃ m, m = g.more.length := ⟨_, rfl⟩
  rw [← hm] at HAR HNE q ⊢
  clear hPA hPg hi hgi hne hz hbA hm
  go_enter Tryz.func11, Tryz.ntmps11
  go_wp2_with fail
  refine HAR.out.mono ?_
  rintro e w1 ⟨rfl, hb1⟩
  have hz1 : w1.heap[w.heap.size]? = _ := (hb1.block _ (by simp)).trans HZ.out
  have HB1 := hid (HBA.out.trans (hb1.mono HBA.out.size))
  obtain ⟨C, hC⟩ : ∃ C, C = w.heap.size := ⟨_, rfl⟩
  rw [← hC] at hz1 ⊢
  have HCC := hid hC
  have c0 : w1.cell? ⟨C, 0, none⟩ = some (.int .i64 0) := by simp [World.cell?, hz1]
  have c1 : w1.cell? ⟨C, 1, none⟩ = some (.int .i64 0) := by simp [World.cell?, hz1]
  have f1 : ∀ i, w1.frozen? ⟨C, i, none⟩ = false := fun i => frozen_of_row w1 C i _ _ hz1
  have HZ1 := hid hz1
  clear hb1 HAR hz1 hC HZ HBA
  rcases HFU.out with hl | hl
  · have ql : fuel < 0 := hl
    clear hfu
    go_wp2_with fail
    obtain ⟨X, hX⟩ : ∃ X, X = (w1.setCell ⟨C, 0, none⟩ (.int .i64 0)).setCell ⟨C, 1, none⟩ (.int .i64 0) := ⟨_, rfl⟩
    rw [← hX]
    have e1 : X.heap[C]? = some (.cells #[.int .i64 0, .int .i64 0] 36 (0, 0)) := by rw [hX]; exact heap_setCell_same _ C 1 _ _ _ (heap_setCell_same _ C 0 _ _ _ HZ1.out)
    have hBX : Below w.heap.size w X := by rw [hX]; exact (HB1.out.setCell (p := ⟨C, 0, none⟩) (Nat.le_of_eq HCC.out.symm) _).setCell (p := ⟨C, 1, none⟩) (Nat.le_of_eq HCC.out.symm) _
    have j0 : X.cell? ⟨C, 0, none⟩ = some (.int .i64 0) := by simp [World.cell?, e1]
    have j1 : X.cell? ⟨C, 1, none⟩ = some (.int .i64 0) := by simp [World.cell?, e1]
    have hE : ElR na m fuel w r (.returned (.tuple #[.agg #[.int .i64 0, .int .i64 0], .iface 72 (.int .i64 3)])) X := ⟨hBX, by rw [if_neg (by simp [HNE.out]), if_pos HFU.out]⟩
    clear hX e1 hBX c0 c1 f1 HZ1
    simp [bodyPost, results, Tryz.results11, go_sem, j0, j1]
    exact hE
  · have ql : ¬ fuel < 0 := by omega
    have ql2 : 16384 < fuel := hl
    clear hfu
    go_wp2_with fail
    obtain ⟨X, hX⟩ : ∃ X, X = (w1.setCell ⟨C, 0, none⟩ (.int .i64 0)).setCell ⟨C, 1, none⟩ (.int .i64 0) := ⟨_, rfl⟩
    rw [← hX]
    have e1 : X.heap[C]? = some (.cells #[.int .i64 0, .int .i64 0] 36 (0, 0)) := by rw [hX]; exact heap_setCell_same _ C 1 _ _ _ (heap_setCell_same _ C 0 _ _ _ HZ1.out)
    have hBX : Below w.heap.size w X := by rw [hX]; exact (HB1.out.setCell (p := ⟨C, 0, none⟩) (Nat.le_of_eq HCC.out.symm) _).setCell (p := ⟨C, 1, none⟩) (Nat.le_of_eq HCC.out.symm) _
    have j0 : X.cell? ⟨C, 0, none⟩ = some (.int .i64 0) := by simp [World.cell?, e1]
    have j1 : X.cell? ⟨C, 1, none⟩ = some (.int .i64 0) := by simp [World.cell?, e1]
    have hE : ElR na m fuel w r (.returned (.tuple #[.agg #[.int .i64 0, .int .i64 0], .iface 72 (.int .i64 3)])) X := ⟨hBX, by rw [if_neg (by simp [HNE.out]), if_pos HFU.out]⟩
    clear hX e1 hBX c0 c1 f1 HZ1
    simp [bodyPost, results, Tryz.results11, go_sem, j0, j1]
    exact hE

set_option maxRecDepth 100000 in
set_option maxHeartbeats 2000000 in
theorem eval_good (p fb pg lo i R : Nat) (h3 : 3 ≤ p) (h4 : p ≤ 2147483647) (hpr : Num.Prime p) (fs : List FnT) (g : FnT) (w : World) (hPg : PgAt lo w pg fs) (hp : w.cell? ⟨fb, 0, none⟩ = some (.int .i64 p)) (hW : ∀ g, g ∈ fs → FW g) (hi : nmM fs fs.length mainW = some (i : Int)) (hgi : fs[i]? = some g) (aa : Option Addr) (ca na fuel : Nat) (args : List Int) (hA : RowB w.heap.size w aa args) (hAb : ∀ j, -9223372036854775808 ≤ zat args j ∧ zat args j ≤ 9223372036854775807) (hna : na = args.length) (hne : na = g.more.length) (hfu : fuel ≤ 16384) (r : ER Int) (hr : r = evl p fs fuel R g.body (mnS p g.more args g.more.length) 0) (hro : r ≠ .out) :
    Calls Tryz.prog 11 #[.pointer (some ⟨pg, 0, none⟩), .pointer (some ⟨fb, 0, none⟩), .slice aa na ca, .int .i64 (fuel : Int)] w (ElR na g.more.length (fuel : Int) w r) := by
  have hbA : Below w.heap.size w (w.alloc (.cells #[.int .i64 0, .int .i64 0] 36)) := (Below.refl _ w).alloc (Nat.le_refl _) _
  have hPA : PgAt lo (w.alloc (.cells #[.int .i64 0, .int .i64 0] 36)) pg fs := by
    obtain ⟨pa, pc, B, h1, h2, h3, h4, h5, h6⟩ := hPg
    exact ⟨pa, pc, B, (hbA.block _ (Array.getElem?_eq_some_iff.1 h1).1).trans h1, h2, h3, h4, h5.below hbA, h6.below hbA⟩
  have HAR := hid (args_any lo pg i fs g _ hPA hi hgi)
  have HNE := hid hne
  have q : ((na : Int) != (g.more.length : Int)) = false := by simp; omega
  have ql : ¬ (fuel : Int) < 0 := by omega
  have ql2 : ¬ (16384 : Int) < (fuel : Int) := by omega
  have HMN := hid (fun (V : Nat) (W : World) (hV : w.heap.size ≤ V) (hb : Below w.heap.size w W) (hE : EvAt W V fb pg 0 fuel) => main_of p V fb pg fuel lo fs w h3 h4 hpr hp hV hPg hW (by omega) W hb hE aa ca args hA hAb g i hi hgi (by omega) R r hr hro)
  have HRO := hid hro
  have HFU := hid hfu
  rw [← hna] at HMN
  have hz : (w.alloc (.cells #[.int .i64 0, .int .i64 0] 36)).heap[w.heap.size]? = some (.cells #[.int .i64 0, .int .i64 0] 36 (0, 0)) := heap_alloc_new w _
  have HZ := hid hz
  have HBA := hid hbA
  obtain ⟨m, hm⟩ : ∃ m, m = g.more.length := ⟨_, rfl⟩
  rw [← hm] at HAR HNE q ⊢
  clear hPA hPg hi hgi hne hz hbA hm hr hro hA hAb hW hp hna hfu
  go_enter Tryz.func11, Tryz.ntmps11
  go_wp2_with fail
  refine HAR.out.mono ?_
  rintro e w1 ⟨rfl, hb1⟩
  have hz1 : w1.heap[w.heap.size]? = _ := (hb1.block _ (by simp)).trans HZ.out
  have HB1 := hid (HBA.out.trans (hb1.mono HBA.out.size))
  obtain ⟨C, hC⟩ : ∃ C, C = w.heap.size := ⟨_, rfl⟩
  rw [← hC] at hz1 ⊢
  have HCC := hid hC
  have c0 : w1.cell? ⟨C, 0, none⟩ = some (.int .i64 0) := by simp [World.cell?, hz1]
  have c1 : w1.cell? ⟨C, 1, none⟩ = some (.int .i64 0) := by simp [World.cell?, hz1]
  have f1 : ∀ i, w1.frozen? ⟨C, i, none⟩ = false := fun i => frozen_of_row w1 C i _ _ hz1
  have HZ1 := hid hz1
  clear hb1 HAR hz1 hC HZ HBA
  have HVV : Hid (EvAt (w1.alloc (.cells #[.pointer (some ⟨fb, 0, none⟩), .pointer (some ⟨pg, 0, none⟩), .int .i64 0, .int .i64 (fuel : Int)] 96)) w1.heap.size fb pg 0 fuel) := heap_alloc_new w1 _
  have hbV : Below w1.heap.size w1 (w1.alloc (.cells #[.pointer (some ⟨fb, 0, none⟩), .pointer (some ⟨pg, 0, none⟩), .int .i64 0, .int .i64 (fuel : Int)] 96)) := (Below.refl _ _).alloc (Nat.le_refl _) _
  have HBV := hid (HB1.out.trans (hbV.mono HB1.out.size))
  have HZV : Hid ((w1.alloc (.cells #[.pointer (some ⟨fb, 0, none⟩), .pointer (some ⟨pg, 0, none⟩), .int .i64 0, .int .i64 (fuel : Int)] 96)).heap[C]? = _) := (hbV.block _ (Array.getElem?_eq_some_iff.1 HZ1.out).1).trans HZ1.out
  have HCL : Hid (C < w1.heap.size) := (Array.getElem?_eq_some_iff.1 HZ1.out).1
  have HSV : Hid (w1.heap.size ≤ (w1.alloc (.cells #[.pointer (some ⟨fb, 0, none⟩), .pointer (some ⟨pg, 0, none⟩), .int .i64 0, .int .i64 (fuel : Int)] 96)).heap.size) := hbV.size
  clear hbV
  go_wp2_with fail
  refine (HMN.out w1.heap.size _ HB1.out.size HBV.out HVV.out).mono ?_
  intro e w2 he
  obtain ⟨hf2, he⟩ := he
  clear c0 c1 f1
  cases r with
  | out => exact he.elim
  | stop er =>
    have he' : e = .returned (.tuple #[.agg #[.int .i64 0, .int .i64 0], .iface 72 (.int .i64 (er : Int))]) := he
    subst he'
    have hz2 : w2.heap[C]? = _ := (hf2.2 C (Nat.lt_of_lt_of_le HCL.out HSV.out) (by have := HCL.out; omega)).trans HZV.out
    have c0 : w2.cell? ⟨C, 0, none⟩ = some (.int .i64 0) := by simp [World.cell?, hz2]
    have c1 : w2.cell? ⟨C, 1, none⟩ = some (.int .i64 0) := by simp [World.cell?, hz2]
    have f1 : ∀ i, w2.frozen? ⟨C, i, none⟩ = false := fun i => frozen_of_row w2 C i _ _ hz2
    have HB2 : Hid (Below w.heap.size w w2) := HBV.out.trans (hf2.1.mono HB1.out.size)
    have HZ2 := hid hz2
    clear hf2 hz2 HZV HVV HMN
    go_wp2_with fail
    obtain ⟨X, hX⟩ : ∃ X, X = (w2.setCell ⟨C, 0, none⟩ (.int .i64 0)).setCell ⟨C, 1, none⟩ (.int .i64 0) := ⟨_, rfl⟩
    rw [← hX]
    have e1 : X.heap[C]? = some (.cells #[.int .i64 0, .int .i64 0] 36 (0, 0)) := by rw [hX]; exact heap_setCell_same _ C 1 _ _ _ (heap_setCell_same _ C 0 _ _ _ HZ2.out)
    have hBX : Below w.heap.size w X := by rw [hX]; exact (HB2.out.setCell (p := ⟨C, 0, none⟩) (Nat.le_of_eq HCC.out.symm) _).setCell (p := ⟨C, 1, none⟩) (Nat.le_of_eq HCC.out.symm) _
    have j0 : X.cell? ⟨C, 0, none⟩ = some (.int .i64 0) := by simp [World.cell?, e1]
    have j1 : X.cell? ⟨C, 1, none⟩ = some (.int .i64 0) := by simp [World.cell?, e1]
    have hE : ElR na m (fuel : Int) w (.stop er) (.returned (.tuple #[.agg #[.int .i64 0, .int .i64 0], .iface 72 (.int .i64 (er : Int))])) X := ⟨hBX, by rw [if_neg (by simp [HNE.out]), if_neg (by have := HFU.out; omega)]⟩
    clear hX e1 hBX c0 c1 f1 HZ2
    simp [bodyPost, results, Tryz.results11, go_sem, j0, j1]
    exact hE
  | val x k3 =>
    have he' : e = .returned (.tuple #[.agg #[.int .i64 x, .int .i64 (k3 : Int)], .nilIface]) := he
    subst he'
    have hz2 : w2.heap[C]? = _ := (hf2.2 C (Nat.lt_of_lt_of_le HCL.out HSV.out) (by have := HCL.out; omega)).trans HZV.out
    have c0 : w2.cell? ⟨C, 0, none⟩ = some (.int .i64 0) := by simp [World.cell?, hz2]
    have c1 : w2.cell? ⟨C, 1, none⟩ = some (.int .i64 0) := by simp [World.cell?, hz2]
    have f1 : ∀ i, w2.frozen? ⟨C, i, none⟩ = false := fun i => frozen_of_row w2 C i _ _ hz2
    have HB2 : Hid (Below w.heap.size w w2) := HBV.out.trans (hf2.1.mono HB1.out.size)
    have HZ2 := hid hz2
    clear hf2 hz2 HZV HVV HMN
    go_wp2_with fail
    obtain ⟨X, hX⟩ : ∃ X, X = (w2.setCell ⟨C, 0, none⟩ (.int .i64 x)).setCell ⟨C, 1, none⟩ (.int .i64 (k3 : Int)) := ⟨_, rfl⟩
    rw [← hX]
    have e1 : X.heap[C]? = some (.cells #[.int .i64 x, .int .i64 (k3 : Int)] 36 (0, 0)) := by rw [hX]; exact heap_setCell_same _ C 1 _ _ _ (heap_setCell_same _ C 0 _ _ _ HZ2.out)
    have hBX : Below w.heap.size w X := by rw [hX]; exact (HB2.out.setCell (p := ⟨C, 0, none⟩) (Nat.le_of_eq HCC.out.symm) _).setCell (p := ⟨C, 1, none⟩) (Nat.le_of_eq HCC.out.symm) _
    have j0 : X.cell? ⟨C, 0, none⟩ = some (.int .i64 x) := by simp [World.cell?, e1]
    have j1 : X.cell? ⟨C, 1, none⟩ = some (.int .i64 (k3 : Int)) := by simp [World.cell?, e1]
    have hE : ElR na m (fuel : Int) w (.val x k3) (.returned (.tuple #[.agg #[.int .i64 x, .int .i64 (k3 : Int)], .nilIface])) X := ⟨hBX, by rw [if_neg (by simp [HNE.out]), if_neg (by have := HFU.out; omega)]⟩
    clear hX e1 hBX c0 c1 f1 HZ2
    simp [bodyPost, results, Tryz.results11, go_sem, j0, j1]
    exact hE

end Go.Proofs.YtlgcmeachjjmgajGreatDoor

namespace Go.Proofs.YtlgcmeachjjmgajGreatDoor
open Go.RowKit

/-- a text's functions, or its first fault -/
def prs (T : ByteArray) : Res (List FnT) := pRes (by' T) (4 * T.size + 1)
theorem prs_out (T : ByteArray) : prs T ≠ .out := by
  have h := pProg_fw (by' T) (4 * T.size + 1) [] 0 (Nat.zero_le _) (by rw [by_len]; omega)
  unfold prs pRes
  cases hq : pProg (by' T) (4 * T.size + 1) [] 0 with
  | out => rw [hq] at h; exact h.elim
  | bad e a => exact fun h => (nomatch h)
  | ok fs j =>
    cases hc : ckn fs (by' T).length with
    | none => simp [hc]
    | some y => simp [hc]
theorem parse_is (T : ByteArray) (w : World) (hTm : T.size ≤ 281474976710656) (hEv : EvW w) : Calls Tryz.prog 8 #[.string T] w (PaR w T.size (prs T)) :=
  parse_any T (4 * T.size + 1) w hTm hEv (prs T) rfl (prs_out T)
theorem prs_ok {T : ByteArray} {fs : List FnT} {j : Nat} (h : prs T = .ok fs j) : FsOk fs ∧ ∃ i g, fs[i]? = some g ∧ g.name = mainW ∧ nmM fs fs.length mainW = some ((i : Nat) : Int) := by
  unfold prs pRes at h
  cases hq : pProg (by' T) (4 * T.size + 1) [] 0 with
  | out => rw [hq] at h; cases h
  | bad e a => rw [hq] at h; cases h
  | ok gs k =>
    rw [hq] at h
    cases hc : ckn gs (by' T).length with
    | some y => simp [hc] at h
    | none =>
      simp [hc] at h
      obtain ⟨rfl, rfl⟩ := h
      obtain ⟨h1, h2⟩ := ckn_none hc
      refine ⟨h1, ?_⟩
      rw [List.any_eq_true] at h2
      obtain ⟨g, hg, hn⟩ := h2
      obtain ⟨i, hi⟩ := List.getElem?_of_mem hg
      have hn' : g.name = mainW := by simpa using hn
      exact ⟨i, g, hi, hn', by rw [← hn']; exact h1.num hi⟩
theorem mnS_names (p : Nat) (more : List (List UInt8 × Nat)) (args : List Int) : ∀ j, j ≤ more.length → (mnS p more args j).map (·.1) = ((more.take j).map (·.1)).reverse
  | 0, _ => by simp [mnS]
  | j + 1, h => by
    have hj : j < more.length := by omega
    rw [mnS, List.getElem?_eq_getElem hj, List.take_add_one, List.getElem?_eq_getElem hj]
    show more[j].1 :: (mnS p more args j).map (·.1) = _
    rw [List.map_append, List.reverse_append, mnS_names p more args j (by omega)]
    rfl
/-- what a program comes to -/
def evE (p : Nat) (fs : List FnT) (g : FnT) (args : List Int) (fuel : Int) (R : Nat) : ER Int := evl p fs fuel.toNat R g.body (mnS p g.more args g.more.length) 0
theorem evE_out (p : Nat) (fs : List FnT) (i : Nat) (g : FnT) (args : List Int) (fuel : Int) (R : Nat) (hR : fuel.toNat + 1 ≤ R) (h3 : 3 ≤ p) (hF : FsOk fs) (hW : ∀ g, g ∈ fs → FW g) (hgi : fs[i]? = some g) : evE p fs g args fuel R ≠ .out := by
  refine evl_out p fs fuel.toNat h3 hF hW _ _ _ 0 (hW g (List.mem_of_getElem? hgi)).2.2.2 (mnS_bd p _ _ h3 _) ?_ (Nat.zero_le _) (by omega)
  rw [mnS_names p g.more args _ (Nat.le_refl _), List.take_length]
  exact ckw_none (hF i g hgi).2
theorem seval_any (p fb pg lo i : Nat) (h3 : 3 ≤ p) (h4 : p ≤ 2147483647) (hpr : Num.Prime p) (fs : List FnT) (g : FnT) (w : World) (hPg : PgAt lo w pg fs) (hp : w.cell? ⟨fb, 0, none⟩ = some (.int .i64 p)) (hF : FsOk fs) (hW : ∀ g, g ∈ fs → FW g) (hi : nmM fs fs.length mainW = some (i : Int)) (hgi : fs[i]? = some g) (aa : Option Addr) (ca na : Nat) (fuel : Int) (args : List Int) (hA : RowB w.heap.size w aa args) (hAb : Fits args) (hna : na = args.length) (R : Nat) (hR : fuel.toNat + 1 ≤ R) :
    Calls Tryz.prog 11 #[.pointer (some ⟨pg, 0, none⟩), .pointer (some ⟨fb, 0, none⟩), .slice aa na ca, .int .i64 fuel] w (ElR na g.more.length fuel w (evE p fs g args fuel R)) := by
  by_cases hne : na = g.more.length
  · by_cases hfu : fuel < 0 ∨ 16384 < fuel
    · exact eval_range fb pg lo i fs g w hPg hi hgi aa ca na fuel _ hne hfu
    · obtain ⟨F, rfl⟩ := Int.eq_ofNat_of_zero_le (show 0 ≤ fuel by omega)
      refine eval_good p fb pg lo i R h3 h4 hpr fs g w hPg hp hW hi hgi aa ca na F args hA (fun j => ?_) hna hne (by omega) _ ?_ (evE_out p fs i g args _ R hR h3 hF hW hgi)
      · by_cases hj : j < args.length
        · exact hAb j hj
        · have : zat args j = 0 := by unfold zat; rw [List.getElem?_eq_none (by omega)]; rfl
          rw [this]; omega
      · unfold evE
        rw [Int.toNat_natCast]
  · exact eval_size fb pg lo i fs g w hPg hi hgi aa ca na fuel _ hne

end Go.Proofs.YtlgcmeachjjmgajGreatDoor

namespace Go.Proofs.YtlgcmeachjjmgajGreatDoor
open Go.RowKit Go.Maps

theorem PgAt.below {lo : Nat} {w w' : World} {p : Nat} {fs : List FnT} (h : PgAt lo w p fs) (hb : Below w.heap.size w w') : PgAt lo w' p fs := by
  obtain ⟨pa, pc, B, h1, h2, h3, h4, h5, h6⟩ := h
  exact ⟨pa, pc, B, (hb.block _ (Array.getElem?_eq_some_iff.1 h1).1).trans h1, h2, h3, h4, h5.below hb, h6.below hb⟩
/-- how Eval ends, by cases -/
theorem ElR.cases {n m : Nat} {fuel : Int} {w w' : World} {r : ER Int} {e : Ending} (h : ElR n m fuel w r e w') : (∃ z : Int, e = .returned (.tuple #[.agg #[.int .i64 0, .int .i64 0], .iface 72 (.int .i64 z)]) ∧ ((n ≠ m ∧ z = 2) ∨ (n = m ∧ (fuel < 0 ∨ 16384 < fuel) ∧ z = 3) ∨ (n = m ∧ ¬ (fuel < 0 ∨ 16384 < fuel) ∧ ∃ er : Nat, r = .stop er ∧ z = er))) ∨
    (n = m ∧ ¬ (fuel < 0 ∨ 16384 < fuel) ∧ ∃ x k, r = .val x k ∧ e = .returned (.tuple #[.agg #[.int .i64 x, .int .i64 (k : Int)], .nilIface])) := by
  obtain ⟨_, h⟩ := h
  by_cases hn : n ≠ m
  · rw [if_pos hn] at h
    exact Or.inl ⟨2, h, Or.inl ⟨hn, rfl⟩⟩
  · rw [if_neg hn] at h
    have hn' : n = m := by omega
    by_cases hf : fuel < 0 ∨ 16384 < fuel
    · rw [if_pos hf] at h
      exact Or.inl ⟨3, h, Or.inr (Or.inl ⟨hn', hf, rfl⟩)⟩
    · rw [if_neg hf] at h
      cases r with
      | out => exact h.elim
      | stop er => exact Or.inl ⟨er, h, Or.inr (Or.inr ⟨hn', hf, er, rfl, rfl⟩)⟩
      | val x k => exact Or.inr ⟨hn', hf, x, k, rfl, h⟩
theorem evE_fuel (p : Nat) (fs : List FnT) (g : FnT) (args : List Int) (fuel other : Int) (R : Nat) (h3 : 3 ≤ p) (hf : 0 ≤ fuel) (ho : 0 ≤ other) {x : Int} {k : Nat} (h : evE p fs g args fuel R = .val x k) :
    1 ≤ k ∧ (k : Int) ≤ fuel ∧ ((k : Int) ≤ other → evE p fs g args other R = .val x k) ∧ (other < (k : Int) → evE p fs g args other R = .stop 8) := by
  have hb := evl_bd p fs fuel.toNat h3 _ _ _ 0 x k (mnS_bd p _ _ h3 _) (Nat.zero_le _) h
  have hfu := evl_fuel p fs fuel.toNat other.toNat h3 R g.body _ 0 (mnS_bd p g.more args h3 g.more.length) (Nat.zero_le _) (Nat.zero_le _) x k h
  refine ⟨by omega, by omega, fun h => hfu.1 (by omega), fun h => hfu.2 (by omega)⟩

set_option maxRecDepth 100000 in
set_option maxHeartbeats 4000000 in
/-- where there is a field -/
theorem sfuel_yes (SO : SrtAs) (q : Nat) (T : ByteArray) (aa : Option Addr) (ca : Nat) (args : List Int) (fuel other : Int) (w : World) (hL : Laid w) (hEv : EvW w) (h3 : 3 ≤ q) (h4 : q ≤ 2147483647) (hpr : Num.Prime q) (hT : T.size ≤ 281474976710656) (hl : RowB w.heap.size w aa args) (hAb : Fits args) :
    Calls Tryz.prog 4 #[.int .i64 q, .string T, .slice aa args.length ca, .int .i64 fuel, .int .i64 other] w fun e w' => e = .returned (.bool true) ∧ Below w.heap.size w w' := by
  have hne := neE
  have hnn := neN
  have HLV := hid (lives6_any SO w)
  have HL := hid hl
  have HLD := hid hL
  have HPR := hid hpr
  have HEV := hid hEv
  have HPS := hid (fun (W : World) (h : Below w.heap.size w W) => parse_is T W hT (hEv.below h))
  have HW := hid (fun (fs : List FnT) (j : Nat) (h : prs T = .ok fs j) => prs_ok h)
  obtain ⟨R, hR⟩ : ∃ R, R = fuel.toNat + other.toNat + 1 := ⟨_, rfl⟩
  have HEL := hid (fun (fl : Int) (hfl : fl.toNat + 1 ≤ R) (fb pg lo i : Nat) (fs : List FnT) (g : FnT) (W : World) (hb : Below w.heap.size w W) (hPg : PgAt lo W pg fs) (hp : W.cell? ⟨fb, 0, none⟩ = some (.int .i64 q)) (hF : FsOk fs) (hW : ∀ g, g ∈ fs → FW g) (hi : nmM fs fs.length mainW = some (i : Int)) (hgi : fs[i]? = some g) => seval_any q fb pg lo i h3 h4 hpr fs g W hPg hp hF hW hi hgi aa ca args.length fl args ((hl.below hb).mono hb.size) hAb rfl R hfl)
  have HR1 : Hid (fuel.toNat + 1 ≤ R) := by unfold Hid; omega
  have HR2 : Hid (other.toNat + 1 ≤ R) := by unfold Hid; omega
  obtain ⟨na, hna⟩ : ∃ na, na = args.length := ⟨_, rfl⟩
  rw [← hna] at HEL ⊢
  generalize prs T = r at HPS HW
  clear hl hL hpr hEv hAb hna hR SO hT
  go_enter Tryz.func4, Tryz.ntmps4
  go_wp2_with fail
  refine HLV.out.mono ?_
  rintro e w1 ⟨rfl, hb1⟩
  have HB1 := hid hb1
  have HPL := hid (plain6_yes q w1 h3 h4 HPR.out)
  clear hb1 HLV
  go_wp2_with fail
  refine HPL.out.mono ?_
  rintro e w2 ⟨rfl, hc2, hb2⟩
  have HB2 := hid (HB1.out.trans (hb2.mono HB1.out.size))
  have HK2 := hid hc2
  clear hb2 HB1 HPL hc2
  go_wp2_with fail
  refine (HPS.out w2 HB2.out).mono ?_
  intro e w3 he
  obtain ⟨hb3, he⟩ := he
  have HB3 := hid (HB2.out.trans (hb3.mono HB2.out.size))
  have HK3 := hid ((hb3.cell (p := ⟨w1.heap.size, 0, none⟩) (World.block_lt_of_cell? _ _ HK2.out)).trans HK2.out)
  clear HPS HK2 HB2 hb3
  by_cases h40 : 4000 < T.size
  · rw [if_pos h40] at he
    subst he
    clear h40 HEL
    go_wp2_with fail
    go_ret
    exact ⟨rfl, HB3.out⟩
  · rw [if_neg h40] at he
    cases r with
    | out => exact he.elim
    | bad er at' =>
      have he' : e = .returned (.tuple #[.pointer none, .int .i64 (at' : Int), .iface 72 (.int .i64 (er : Int))]) := he
      subst he'
      clear h40 HEL
      go_wp2_with fail
      go_ret
      exact ⟨rfl, HB3.out⟩
    | ok fs j =>
      obtain ⟨⟨pg, rfl, hPg⟩, hfw, _⟩ := he
      obtain ⟨hF, i, g, hgi, _, hi⟩ := HW.out fs j rfl
      have HE1 := hid (HEL.out fuel HR1.out w1.heap.size pg _ i fs g w3 HB3.out hPg HK3.out hF hfw hi hgi)
      have HE2 := hid (fun (W : World) (hb : Below w3.heap.size w3 W) => HEL.out other HR2.out w1.heap.size pg _ i fs g W (HB3.out.trans (hb.mono HB3.out.size)) (hPg.below hb) ((hb.cell (p := ⟨w1.heap.size, 0, none⟩) (World.block_lt_of_cell? _ _ HK3.out)).trans HK3.out) hF hfw hi hgi)
      have HFU := hid (fun (hf : 0 ≤ fuel) (ho : 0 ≤ other) (x : Int) (k : Nat) (h : evE q fs g args fuel R = .val x k) => evE_fuel q fs g args fuel other R h3 hf ho h)
      clear hPg hfw hF hi hgi h40 HEL HW HK3 HR1 HR2
      generalize evE q fs g args fuel R = r1 at HE1 HFU
      generalize evE q fs g args other R = r2 at HE2 HFU
      generalize g.more.length = m at HE1 HE2
      go_wp2_with fail
      refine HE1.out.mono ?_
      intro e w4 he4
      have HB4 := hid (HB3.out.trans (he4.1.mono HB3.out.size))
      have HB34 := hid he4.1
      rcases he4.cases with ⟨z, rfl, _⟩ | ⟨hnm, hfr, x, k, hr1, rfl⟩
      · clear he4 HE1
        obtain ⟨W4, hW4⟩ : ∃ W4, W4 = w4.alloc (.cells #[.int .i64 0, .int .i64 0] 36) := ⟨_, rfl⟩
        have hbb : Below w4.heap.size w4 W4 := by rw [hW4]; exact (Below.refl _ _).alloc (Nat.le_refl _) _
        have HB5 := hid (HB4.out.trans (hbb.mono HB4.out.size))
        have HB35 := hid (HB34.out.trans (hbb.mono HB34.out.size))
        clear hbb HB34
        go_wp2_with fail
        rw [← hW4]
        clear hW4
        refine (HE2.out W4 HB35.out).mono ?_
        intro e w5 he5
        have HB6 := hid (HB5.out.trans (he5.1.mono HB5.out.size))
        rcases he5.cases with ⟨z2, rfl, _⟩ | ⟨_, _, x, k, _, rfl⟩
        · clear he5 HE2
          go_wp2_with fail
          go_ret
          exact ⟨rfl, HB6.out.alloc HB6.out.size _⟩
        · clear he5 HE2
          go_wp2_with fail
          go_ret
          exact ⟨rfl, HB6.out.alloc HB6.out.size _⟩
      · have HNM := hid hnm
        have HFR := hid hfr
        have HR1 := hid hr1
        clear he4 HE1 hnm hr1 hfr
        obtain ⟨W4, hW4⟩ : ∃ W4, W4 = w4.alloc (.cells #[.int .i64 x, .int .i64 (k : Int)] 36) := ⟨_, rfl⟩
        have hbb : Below w4.heap.size w4 W4 := by rw [hW4]; exact (Below.refl _ _).alloc (Nat.le_refl _) _
        have HA4 : Hid (W4.heap[w4.heap.size]? = some (.cells #[.int .i64 x, .int .i64 (k : Int)] 36 (0, 0))) := by unfold Hid; rw [hW4]; exact heap_alloc_new w4 _
        have HB5 := hid (HB4.out.trans (hbb.mono HB4.out.size))
        have HB35 := hid (HB34.out.trans (hbb.mono HB34.out.size))
        replace hW4 := hW4.symm
        clear hbb HB34
        go_wp2_with fail
        clear hW4
        refine (HE2.out W4 HB35.out).mono ?_
        intro e w5 he5
        have HB6 := hid (HB5.out.trans (he5.1.mono HB5.out.size))
        have HA5 := hid ((he5.1.block _ (Array.getElem?_eq_some_iff.1 HA4.out).1).trans HA4.out)
        have HX5 := hid he5.cases
        clear he5 HE2 HA4 HB35
        by_cases hot : other < 0 ∨ 16384 < other
        · have h5 : ∃ z2, e = .returned (.tuple #[.agg #[.int .i64 0, .int .i64 0], .iface 72 (.int .i64 z2)]) := by
            rcases HX5.out with ⟨z2, he, _⟩ | ⟨_, h0, _⟩
            · exact ⟨z2, he⟩
            · exact absurd hot h0
          obtain ⟨z2, rfl⟩ := h5
          clear HX5
          by_cases hneg : other < 0
          · clear hot
            go_wp2_with fail
            go_ret
            exact ⟨rfl, HB6.out.alloc HB6.out.size _⟩
          · have hgt : 16384 < other := by omega
            clear hot
            go_wp2_with fail
            go_ret
            exact ⟨rfl, HB6.out.alloc HB6.out.size _⟩
        · have hneg : ¬ other < 0 := by omega
          have hgt : ¬ 16384 < other := by omega
          obtain ⟨hk1, hk2, hsame, hless⟩ := HFU.out (by have := HFR.out; omega) (by omega) x k HR1.out
          have q1 : ¬ (k : Int) < 1 := by omega
          have q2 : ¬ fuel < (k : Int) := by omega
          clear hk1 hk2
          by_cases hlt : other < (k : Int)
          · have h5 : e = .returned (.tuple #[.agg #[.int .i64 0, .int .i64 0], .iface 72 (.int .i64 8)]) := by
              rcases HX5.out with ⟨z2, he, h6⟩ | ⟨_, _, x2, k2, h6, _⟩
              · rcases h6 with ⟨h7, _⟩ | ⟨_, h7, _⟩ | ⟨_, _, er, h7, h8⟩
                · exact absurd HNM.out h7
                · exact absurd h7 hot
                · rw [hless hlt] at h7
                  injection h7 with h7
                  rw [he, h8, ← h7]; rfl
              · rw [hless hlt] at h6
                cases h6
            subst h5
            clear HX5 hsame hless hot
            obtain ⟨W5, hW5⟩ : ∃ W5, W5 = w5.alloc (.cells #[.int .i64 0, .int .i64 0] 36) := ⟨_, rfl⟩
            have hbb : Below w5.heap.size w5 W5 := by rw [hW5]; exact (Below.refl _ _).alloc (Nat.le_refl _) _
            have HB7 := hid (HB6.out.trans (hbb.mono HB6.out.size))
            have HER := hid (error_hit 8 8 W5 (HLD.out.below HB7.out))
            have i1 : w5.cell? ⟨w4.heap.size, 1, none⟩ = some (.int .i64 (k : Int)) := by simp [World.cell?, HA5.out]
            have hlt5 : w4.heap.size < w5.heap.size := (Array.getElem?_eq_some_iff.1 HA5.out).1
            clear hbb HB6 HA5
            go_wp2_with fail
            rw [← hW5]
            clear hW5 i1 hlt5
            refine HER.out.mono ?_
            rintro e w6 ⟨rfl, hb6⟩
            have HB8 := hid (HB7.out.trans (hb6.mono HB7.out.size))
            clear hb6 HER HB7
            go_wp2_with fail
            go_ret
            exact ⟨by simp, HB8.out⟩
          · have h5 : e = .returned (.tuple #[.agg #[.int .i64 x, .int .i64 (k : Int)], .nilIface]) := by
              rcases HX5.out with ⟨z2, he, h6⟩ | ⟨_, _, x2, k2, h6, he⟩
              · rcases h6 with ⟨h7, _⟩ | ⟨_, h7, _⟩ | ⟨_, _, er, h7, h8⟩
                · exact absurd HNM.out h7
                · exact absurd h7 hot
                · rw [hsame (by omega)] at h7
                  cases h7
              · rw [hsame (by omega)] at h6
                injection h6 with h6 h7
                subst h6 h7
                exact he
            subst h5
            clear HX5 hsame hless hot
            obtain ⟨W5, hW5⟩ : ∃ W5, W5 = w5.alloc (.cells #[.int .i64 x, .int .i64 (k : Int)] 36) := ⟨_, rfl⟩
            have hbb : Below w5.heap.size w5 W5 := by rw [hW5]; exact (Below.refl _ _).alloc (Nat.le_refl _) _
            have HD6 : Hid (W5.heap[w5.heap.size]? = some (.cells #[.int .i64 x, .int .i64 (k : Int)] 36 (0, 0))) := by unfold Hid; rw [hW5]; exact heap_alloc_new w5 _
            have HB7 := hid (HB6.out.trans (hbb.mono HB6.out.size))
            have HA6 := hid ((hbb.block _ (Array.getElem?_eq_some_iff.1 HA5.out).1).trans HA5.out)
            have i0 : w5.cell? ⟨w4.heap.size, 1, none⟩ = some (.int .i64 (k : Int)) := by simp [World.cell?, HA5.out]
            have i1 : W5.cell? ⟨w4.heap.size, 0, none⟩ = some (.int .i64 x) := by simp [World.cell?, HA6.out]
            have i2 : W5.cell? ⟨w4.heap.size, 1, none⟩ = some (.int .i64 (k : Int)) := by simp [World.cell?, HA6.out]
            have i5 : W5.cell? ⟨w5.heap.size, 0, none⟩ = some (.int .i64 x) := by simp [World.cell?, HD6.out]
            have i6 : W5.cell? ⟨w5.heap.size, 1, none⟩ = some (.int .i64 (k : Int)) := by simp [World.cell?, HD6.out]
            clear hbb HB6 HA5 HA6 HD6
            replace hW5 := hW5.symm
            go_wp2_with fail
            go_ret
            exact ⟨by simp, HB7.out⟩

set_option maxRecDepth 100000 in
theorem sfuel_walk (p : Int) (T : ByteArray) (aa : Option Addr) (ca : Nat) (args : List Int) (fuel other : Int) (w : World) (hL : Laid w) (hEv : EvW w) (hp1 : -9223372036854775808 ≤ p) (hp2 : p ≤ 9223372036854775807) (hT : T.size ≤ 281474976710656) (hl : RowB w.heap.size w aa args) (hAb : Fits args) :
    Calls Tryz.prog 4 #[.int .i64 p, .string T, .slice aa args.length ca, .int .i64 fuel, .int .i64 other] w fun e w' => e = .returned (.bool true) ∧ Below w.heap.size w w' := by
  by_cases hok : okPrime p
  · obtain ⟨q, rfl⟩ := Int.eq_ofNat_of_zero_le (show 0 ≤ p by have := hok.1; omega)
    obtain ⟨h3, h4, hpr⟩ := hok
    rw [Int.toNat_natCast] at hpr
    exact sfuel_yes srtAs q T aa ca args fuel other w hL hEv (by omega) (by omega) hpr hT hl hAb
  · have HLV := hid (lives6_any srtAs w)
    have HPN := hid (fun W => plain6_no p W hok hp1 hp2)
    generalize args.length = na
    clear hl hAb hL hok hp1 hp2 hEv hT
    go_enter Tryz.func4, Tryz.ntmps4
    go_wp2_with fail
    refine HLV.out.mono ?_
    rintro e w1 ⟨rfl, hb1⟩
    have HB1 := hid hb1
    clear hb1 HLV
    go_wp2_with fail
    refine (HPN.out w1).mono ?_
    rintro e w2 ⟨rfl, rfl⟩
    go_wp2_with fail
    go_ret
    exact ⟨rfl, HB1.out⟩

end Go.Proofs.YtlgcmeachjjmgajGreatDoor
