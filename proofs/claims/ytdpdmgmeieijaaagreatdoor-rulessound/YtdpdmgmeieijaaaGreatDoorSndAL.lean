/- Package machine: walked. Package machine: ascending, what is collected. Package machine: ascending. -/
import Derived.Test.YtdpdmgmeieijaaaGreatDoorSndAK
import Derived.Maps.RangeWalk
namespace Go.Proofs.YtdpdmgmeieijaaaGreatDoor
open Go.RowKit Go.Maps

/-- how walked ends -/
def WdR (p : Nat) (size : Int) (L : List InsZ) (limit : Int) (w : World) (e : Ending) (w' : World) : Prop := Below w.heap.size w w' ∧
  if fz6 (p : Int) size L.length limit ≠ 0 then e = .returned (.tuple #[.slice none 0 0, .map none, errV (fz6 (p : Int) size L.length limit)])
  else match mwalk p size L limit.toNat with
    | .bad z => e = .returned (.tuple #[.slice none 0 0, .map none, errV z])
    | .good l cs => ∃ v B, e = .returned (.tuple #[v, .map (some B), .nilIface]) ∧ StR w.heap.size w' v l ∧ MapAt w' B (1 + 2 * l.length) cs
/-- what stands in walked: the code, and what is to be given -/
structure WdS (C : Nat) (size : Int) (aL : Option Addr) (nL cL : Nat) (v1 v2 v3 : Value) (w W : World) : Prop where
  c : W.heap[C]? = some (.cells #[.int .i64 size, .slice aL nL cL] 24 (0, 0))
  s1 : W.heap[C + 1]? = some (.cells #[v1] 60 (0, 0))
  s2 : W.heap[C + 2]? = some (.cells #[v2] 61 (0, 0))
  s3 : W.heap[C + 3]? = some (.cells #[v3] 38 (0, 0))
  bel : Below w.heap.size w W
  hC : w.heap.size ≤ C

theorem wdS_of (size : Int) (aL : Option Addr) (nL cL : Nat) (w : World) : WdS w.heap.size size aL nL cL (.slice none 0 0) (.map none) .nilIface w ((((w.alloc (.cells #[.int .i64 size, .slice aL nL cL] 24)).alloc (.cells #[.slice none 0 0] 60)).alloc (.cells #[.map none] 61)).alloc (.cells #[.nilIface] 38)) := by
  obtain ⟨V1, h1⟩ : ∃ V, V = w.alloc (.cells #[.int .i64 size, .slice aL nL cL] 24) := ⟨_, rfl⟩
  obtain ⟨V2, h2⟩ : ∃ V, V = V1.alloc (.cells #[.slice none 0 0] 60) := ⟨_, rfl⟩
  obtain ⟨V3, h3⟩ : ∃ V, V = V2.alloc (.cells #[.map none] 61) := ⟨_, rfl⟩
  rw [← h1, ← h2, ← h3]
  have e1 : V1.heap.size = w.heap.size + 1 := by rw [h1]; simp
  have e2 : V2.heap.size = w.heap.size + 2 := by rw [h2]; simp [e1]
  have e3 : V3.heap.size = w.heap.size + 3 := by rw [h3]; simp [e2]
  have b1 : Below w.heap.size w V1 := by rw [h1]; exact (Below.refl _ _).alloc (Nat.le_refl _) _
  have b2 : Below V1.heap.size V1 V2 := by rw [h2]; exact (Below.refl _ _).alloc (Nat.le_refl _) _
  have b3 : Below V2.heap.size V2 V3 := by rw [h3]; exact (Below.refl _ _).alloc (Nat.le_refl _) _
  have b4 : Below V3.heap.size V3 (V3.alloc (.cells #[.nilIface] 38)) := (Below.refl _ _).alloc (Nat.le_refl _) _
  have n1 : V1.heap[w.heap.size]? = some (.cells #[.int .i64 size, .slice aL nL cL] 24 (0, 0)) := by rw [h1]; exact heap_alloc_new w _
  have n2 : V2.heap[w.heap.size + 1]? = some (.cells #[.slice none 0 0] 60 (0, 0)) := by rw [← e1, h2]; exact heap_alloc_new V1 _
  have n3 : V3.heap[w.heap.size + 2]? = some (.cells #[.map none] 61 (0, 0)) := by rw [← e2, h3]; exact heap_alloc_new V2 _
  exact ⟨(b4.block _ (by omega)).trans ((b3.block _ (by omega)).trans ((b2.block _ (by omega)).trans n1)), (b4.block _ (by omega)).trans ((b3.block _ (by omega)).trans n2), (b4.block _ (by omega)).trans n3, by rw [← e3]; exact heap_alloc_new V3 _, b1.trans ((b2.mono (by omega)).trans ((b3.mono (by omega)).trans (b4.mono (by omega)))), Nat.le_refl _⟩
section
variable {C : Nat} {size : Int} {aL : Option Addr} {nL cL : Nat} {v1 v2 v3 : Value} {w W W' : World}
theorem WdS.step (h : WdS C size aL nL cL v1 v2 v3 w W) (e : Below W.heap.size W W') : WdS C size aL nL cL v1 v2 v3 w W' :=
  ⟨(e.block _ (Array.getElem?_eq_some_iff.1 h.c).1).trans h.c, (e.block _ (Array.getElem?_eq_some_iff.1 h.s1).1).trans h.s1, (e.block _ (Array.getElem?_eq_some_iff.1 h.s2).1).trans h.s2, (e.block _ (Array.getElem?_eq_some_iff.1 h.s3).1).trans h.s3, h.bel.trans (e.mono h.bel.size), h.hC⟩
end
theorem one_row {W : World} {g : Nat} {t : TypeId} {v : Value} (h : W.heap[g]? = some (.cells #[v] t (0, 0))) : W.rowIs g t 1 (fun _ => v) := ⟨_, h, rfl, fun i hi => by
    have : i = 0 := by omega
    rw [this]
    rfl⟩
theorem one_cell {W : World} {g : Nat} {t : TypeId} {v : Value} (h : W.heap[g]? = some (.cells #[v] t (0, 0))) : W.cell? ⟨g, 0, none⟩ = some v := by simp [World.cell?, h]
theorem one_set {W : World} {g : Nat} {t : TypeId} {v : Value} (h : W.heap[g]? = some (.cells #[v] t (0, 0))) (x : Value) : (W.setCell ⟨g, 0, none⟩ x).heap[g]? = some (.cells #[x] t (0, 0)) := by
  obtain ⟨c, hb, hs, hc⟩ := (one_row h).set 0 x
  rw [hb]
  congr 2
  apply Array.ext
  · simpa using hs
  · intro i h1 h2
    have hi : i = 0 := by simp at h2; omega
    subst hi
    have := hc 0 (by omega)
    rw [Array.getElem?_eq_getElem h1] at this
    injection this
/-- the three cells written -/
theorem WdS.put {C : Nat} {size : Int} {aL : Option Addr} {nL cL : Nat} {v1 v2 v3 : Value} {w W : World} (h : WdS C size aL nL cL v1 v2 v3 w W) (x y z : Value) : WdS C size aL nL cL x y z w (((W.setCell ⟨C + 1, 0, none⟩ x).setCell ⟨C + 2, 0, none⟩ y).setCell ⟨C + 3, 0, none⟩ z) := by
  have o1 : ∀ (V : World) (k g : Nat) (u : Value), k ≠ g → (V.setCell ⟨g, 0, none⟩ u).heap[k]? = V.heap[k]? := fun V k g u hk => Below.heap_setCell _ _ _ _ hk
  have hc := h.hC
  refine ⟨?_, ?_, ?_, ?_, ⟨h.bel.os, h.bel.tape, h.bel.output, by simpa [World.setCell] using h.bel.size, fun k hk => ?_⟩, h.hC⟩
  · rw [o1 _ _ _ _ (by omega), o1 _ _ _ _ (by omega), o1 _ _ _ _ (by omega)]; exact h.c
  · rw [o1 _ _ _ _ (by omega), o1 _ _ _ _ (by omega)]; exact one_set h.s1 x
  · rw [o1 _ _ _ _ (by omega)]; exact one_set (by rw [o1 _ _ _ _ (by omega)]; exact h.s2) y
  · exact one_set (by rw [o1 _ _ _ _ (by omega), o1 _ _ _ _ (by omega)]; exact h.s3) z
  · rw [o1 _ _ _ _ (by omega), o1 _ _ _ _ (by omega), o1 _ _ _ _ (by omega)]; exact h.bel.block k hk

set_option maxRecDepth 100000 in
set_option maxHeartbeats 2000000 in
theorem pwalked_bad (p b : Nat) (size limit : Int) (aL : Option Addr) (cL : Nat) (L : List InsZ) (w : World) (hp : w.cell? ⟨b, 0, none⟩ = some (.int .i64 p)) (hn : L.length ≤ 281474976710656) (hz : fz6 (p : Int) size L.length limit ≠ 0) :
    Calls Tryz.prog 21 #[.pointer (some ⟨b, 0, none⟩), .agg #[.int .i64 size, .slice aL L.length cL], .int .i64 limit] w (WdR p size L limit w) := by
  have hmf : ∀ (fn : Fn) (first cap : Array Value) (w : World), (Instr.makeFunc fn first cap).run Tryz.prog w = .ok (.func fn first cap) w := fun _ _ _ _ => rfl
  obtain ⟨z, hzz⟩ : ∃ z, z = fz6 (p : Int) size L.length limit := ⟨_, rfl⟩
  obtain ⟨nL, hnL⟩ : ∃ nL, nL = L.length := ⟨_, rfl⟩
  have HW0 := hid (wdS_of size aL nL cL w)
  have HER : Hid (errV z = .iface 68 (.int .i64 z)) := by unfold Hid errV; rw [if_neg (by rw [hzz]; exact hz)]
  have HWR := hid (pwrong_any p b size limit aL nL cL ((((w.alloc (.cells #[.int .i64 size, .slice aL nL cL] 24)).alloc (.cells #[.slice none 0 0] 60)).alloc (.cells #[.map none] 61)).alloc (.cells #[.nilIface] 38)) ((HW0.out.bel.cell (p := ⟨b, 0, none⟩) (World.block_lt_of_cell? _ _ hp)).trans hp) (by omega))
  rw [hnL, ← hzz, ← hnL, HER.out] at HWR
  have HRR : Hid (∀ w', Below w.heap.size w w' → WdR p size L limit w (.returned (.tuple #[.slice none 0 0, .map none, .iface 68 (.int .i64 z)])) w') := fun w' hb => by
    refine ⟨hb, ?_⟩
    rw [if_pos hz, ← hzz, HER.out]
  obtain ⟨W0, hW0⟩ : ∃ W0, W0 = (((w.alloc (.cells #[.int .i64 size, .slice aL nL cL] 24)).alloc (.cells #[.slice none 0 0] 60)).alloc (.cells #[.map none] 61)).alloc (.cells #[.nilIface] 38) := ⟨_, rfl⟩
  rw [← hW0] at HW0 HWR
  rw [← hnL]
  obtain ⟨C, hC⟩ : ∃ C, C = w.heap.size := ⟨_, rfl⟩
  rw [← hC] at HW0
  clear hz hzz hp hn hnL HER
  go_enter_defers Tryz.func21, Tryz.ntmps21
  go_wp2_with fail
  rw [← hW0]
  refine HWR.out.mono ?_
  rintro e w1 ⟨rfl, hb1⟩
  have HW1 := hid (HW0.out.step hb1)
  rw [← hC]
  have k1 := one_cell HW1.out.s1
  have k2 := one_cell HW1.out.s2
  have k3 := one_cell HW1.out.s3
  have m1 := (one_row HW1.out.s1).frozen
  have m2 := (one_row HW1.out.s2).frozen
  have m3 := (one_row HW1.out.s3).frozen
  obtain ⟨V, hV⟩ : ∃ V, V = ((w1.setCell ⟨C + 1, 0, none⟩ (.slice none 0 0)).setCell ⟨C + 1 + 1, 0, none⟩ (.map none)).setCell ⟨C + 1 + 1 + 1, 0, none⟩ (.iface 68 (.int .i64 z)) := ⟨_, rfl⟩
  have HE1 : Hid (WdS C size aL nL cL (.slice none 0 0) (.map none) (.iface 68 (.int .i64 z)) w V) := by unfold Hid; rw [hV]; exact HW1.out.put (.slice none 0 0) (.map none) (.iface 68 (.int .i64 z))
  clear hb1 HW0 HWR hW0 hC
  go_wp2_with fail
  rw [← hV]
  have e1 : V.cell? ⟨C + 1, 0, none⟩ = some (.slice none 0 0) := one_cell HE1.out.s1
  have e2 : V.cell? ⟨C + 1 + 1, 0, none⟩ = some (.map none) := one_cell HE1.out.s2
  have e3 : V.cell? ⟨C + 1 + 1 + 1, 0, none⟩ = some (.iface 68 (.int .i64 z)) := one_cell HE1.out.s3
  have hE := HRR.out V HE1.out.bel
  clear hV HE1 HRR HW1 k1 k2 k3 m1 m2 m3
  simp [bodyPostD, Leaves, results, Tryz.results21, go_sem, e1, e2, e3]
  exact hE

/-- how a run that begins ends: steps, then what is deferred -/
theorem errV_nz {z : Int} (h : z ≠ 0) : errV z = .iface 68 (.int .i64 z) := by unfold errV; rw [if_neg h]
theorem zer_first : Zer [(0, 0)] := ⟨by decide, by decide⟩
theorem csB_first {p : Nat} (h3 : 3 ≤ p) : CsB p [(0, 0)] := fun j hj => by
  have : j = 0 := by simp at hj; omega
  subst this
  show (0 : Int) ≤ 0 ∧ (0 : Int) < p
  omega

theorem leaves_same {P : Program} {fn : Func} {t1 t2 : Array Value} {R : Ending → World → Prop} (hr : results fn t1 = results fn t2) : ∀ (ds : List Deferred) (u : FrameMode) (w : World), Leaves P fn t1 R ds u w → Leaves P fn t2 R ds u w
  | [], .returning, w, h => by
    obtain ⟨v, h1, h2⟩ := h
    exact ⟨v, by rw [← hr]; exact h1, h2⟩
  | [], .panicking _, _, h => h
  | [], .run, _, h => h
  | d :: ds, u, w, h => by
    obtain ⟨h1, fv, cap, f, args, h2, h3, h4⟩ := h
    refine ⟨h1, fv, cap, f, args, h2, h3, h4.mono ?_⟩
    rintro e u' w' he
    cases e with
    | returned v => exact leaves_same hr ds _ _ he
    | panicked c => exact leaves_same hr ds _ _ he
    | outgrown => exact he
theorem res_put (t : Array Value) (d : Nat) (v : Value) (h6 : d ≠ 6) (h7 : d ≠ 7) (h8 : d ≠ 8) : results Tryz.f21 (t.setIfInBounds d v) = results Tryz.f21 t := by
  have e : ∀ k, d ≠ k → (t.setIfInBounds d v)[k]? = t[k]? := fun k hk => Array.getElem?_setIfInBounds_ne hk
  simp [results, Tryz.results21, e 6 h6, e 7 h7, e 8 h8]
theorem panic_put {R : Ending → World → Prop} (d : Nat) (v : Value) (h6 : d ≠ 6) (h7 : d ≠ 7) (h8 : d ≠ 8) (c : List PanicEntry) (a : Act) (w : World) (h : bodyPostD Tryz.prog Tryz.f21 R (.panic c) (a.put (some d) v) w) : bodyPostD Tryz.prog Tryz.f21 R (.panic c) a w :=
  leaves_same (res_put a.tmps d v h6 h7 h8) _ _ _ h

set_option maxRecDepth 100000 in
set_option maxHeartbeats 2000000 in
theorem pwalked_good (p b : Nat) (size : Int) (limit : Nat) (aL : Option Addr) (cL : Nat) (L : List InsZ) (w : World) (h3 : 3 ≤ p) (h4 : p ≤ 2147483647) (hpr : Num.Prime p) (hp : w.cell? ⟨b, 0, none⟩ = some (.int .i64 p)) (hz : fz6 (p : Int) size L.length (limit : Int) = 0) (hL : LstI w.heap.size w aL cL L) (hIB : InsB L) :
    Calls Tryz.prog 21 #[.pointer (some ⟨b, 0, none⟩), .agg #[.int .i64 size, .slice aL L.length cL], .int .i64 (limit : Int)] w (WdR p size L (limit : Int) w) := by
  have hmf : ∀ (fn : Fn) (first cap : Array Value) (w : World), (Instr.makeFunc fn first cap).run Tryz.prog w = .ok (.func fn first cap) w := fun _ _ _ _ => rfl
  have hfz : 0 ≤ size ∧ size ≤ 65536 ∧ L.length ≤ 4096 ∧ limit ≤ 16384 := by
    unfold fz6 at hz
    split at hz
    · omega
    · split at hz
      · omega
      · rename_i h1 h2
        refine ⟨by omega, by omega, by omega, by omega⟩
  obtain ⟨X, hX⟩ : ∃ X, X = mwalk p size L limit := ⟨_, rfl⟩
  have HX := hid hX
  have HWD : Hid (∀ e w', Below w.heap.size w w' → (match X with
    | .bad z => e = .returned (.tuple #[.slice none 0 0, .map none, errV z])
    | .good l cs => ∃ v B, e = .returned (.tuple #[v, .map (some B), .nilIface]) ∧ StR w.heap.size w' v l ∧ MapAt w' B (1 + 2 * l.length) cs) → WdR p size L (limit : Int) w e w') := fun e w' hb hh => by
    refine ⟨hb, ?_⟩
    rw [if_neg (by rw [hz]; exact fun h => h rfl), Int.toNat_natCast, ← hX]
    exact hh
  obtain ⟨nL, hnL⟩ : ∃ nL, nL = L.length := ⟨_, rfl⟩
  have HNL := hid hnL
  have HW0 := hid (wdS_of size aL nL cL w)
  have hp0 := (HW0.out.bel.cell (p := ⟨b, 0, none⟩) (World.block_lt_of_cell? _ _ hp)).trans hp
  have HWR := hid (pwrong_any p b size (limit : Int) aL nL cL ((((w.alloc (.cells #[.int .i64 size, .slice aL nL cL] 24)).alloc (.cells #[.slice none 0 0] 60)).alloc (.cells #[.map none] 61)).alloc (.cells #[.nilIface] 38)) hp0 (by omega))
  rw [hnL, hz, ← hnL, show errV 0 = .nilIface by rfl] at HWR
  obtain ⟨W0, hW0⟩ : ∃ W0, W0 = (((w.alloc (.cells #[.int .i64 size, .slice aL nL cL] 24)).alloc (.cells #[.slice none 0 0] 60)).alloc (.cells #[.map none] 61)).alloc (.cells #[.nilIface] 38) := ⟨_, rfl⟩
  rw [← hW0] at HW0 HWR
  rw [← hnL]
  obtain ⟨C, hC⟩ : ∃ C, C = w.heap.size := ⟨_, rfl⟩
  rw [← hC] at HW0
  have HCC := hid hC
  have HBL := hid (World.block_lt_of_cell? _ _ hp)
  have HP := hid hp
  have HLL := hid hL
  have HIB := hid hIB
  have HPR := hid hpr
  have HSZ := hid hfz
  clear hz hp hp0 hnL hX hL hIB hpr hfz
  go_enter_defers Tryz.func21, Tryz.ntmps21
  go_wp2_with fail
  rw [← hW0]
  refine HWR.out.mono ?_
  rintro e w1 ⟨rfl, hb1⟩
  have HW1 := hid (HW0.out.step hb1)
  rw [← hC]
  have k0 : w1.cell? ⟨C, 0, none⟩ = some (.int .i64 size) := by simp [World.cell?, HW1.out.c]
  have k1 : w1.cell? ⟨C, 1, none⟩ = some (.slice aL nL cL) := by simp [World.cell?, HW1.out.c]
  have HBG := hid (pbegun_any p b size aL nL cL w1 h3 h4 ((HW1.out.bel.cell (p := ⟨b, 0, none⟩) HBL.out).trans HP.out) ⟨HSZ.out.1, HSZ.out.2.1⟩)
  clear hb1 HW0 HWR hW0 hC
  go_wp2_with fail
  refine HBG.out.mono ?_
  rintro e w2 ⟨R, B, rfl, hr2, hm2, hRw, hBw, hb2⟩
  have HD2 := hid (HW1.out.step hb2)
  have hpw := (HD2.out.bel.cell (p := ⟨b, 0, none⟩) HBL.out).trans HP.out
  have HRG : Hid (RgB p ⟨0, 1, (1 + size) % (p : Int), 0⟩) := by
    have e := emod_bounds (1 + size) p h3
    refine ⟨⟨?_, ?_⟩, ⟨?_, ?_⟩, ⟨?_, ?_⟩, ⟨?_, ?_⟩⟩
    · show (0 : Int) ≤ 0; omega
    · show (0 : Int) < p; omega
    · show (0 : Int) ≤ 1; omega
    · show (1 : Int) < p; omega
    · show 0 ≤ (1 + size) % (p : Int); exact e.1
    · show (1 + size) % (p : Int) < p; exact e.2
    · show (0 : Int) ≤ 0; omega
    · show (0 : Int) < p; omega
  have hw1s := HW1.out.bel.size
  have HST : Hid (Calls Tryz.prog 41 #[.pointer (some ⟨R, 0, none⟩), .int .i64 (limit : Int)] w2.drew (PkR B R X w2.drew)) := by
    unfold Hid
    rw [HX.out]
    exact psteps_any p R b B cL limit w.heap.size aL L ⟨0, 1, (1 + size) % (p : Int), 0⟩ [(0, 0)] w2.drew h3 h4 HPR.out (by rw [← HNL.out]; exact hr2) hm2 hpw ((HLL.out.below HD2.out.bel).below ⟨rfl, rfl, rfl, Nat.le_refl _, fun _ _ => rfl⟩) HIB.out HSZ.out.2.2.2 (by omega) (by omega) HBL.out (csB_first h3) zer_first HRG.out
  have c2 : w2.cell? ⟨R, 2, none⟩ = some (.map (some B)) := hr2.cell (i := 2) (by decide)
  have HRB : Hid (C + 3 < R ∧ C + 3 < B) := by
    have := (Array.getElem?_eq_some_iff.1 HW1.out.s3).1
    exact ⟨by omega, by omega⟩
  have HDD : Hid (WdS C size aL nL cL (.slice none 0 0) (.map none) .nilIface w w2.drew) := HD2.out.step ⟨rfl, rfl, rfl, Nat.le_refl _, fun _ _ => rfl⟩
  have HS2 : Hid (C + 3 < w2.drew.heap.size ∧ w.heap.size ≤ w2.drew.heap.size) := ⟨(Array.getElem?_eq_some_iff.1 HDD.out.s3).1, HDD.out.bel.size⟩
  have HG3 : Hid (∀ w3 : World, Gr2 B R w2.drew w3 → WdS C size aL nL cL (.slice none 0 0) (.map none) .nilIface w w3) := fun w3 g => by
    have h1 := HRB.out
    have h2 := HDD.out.hC
    have h3 := HDD.out.bel
    have hs := (Array.getElem?_eq_some_iff.1 HDD.out.s3).1
    refine ⟨(g.block _ (by omega) (by omega) (by omega)).trans HDD.out.c, (g.block _ (by omega) (by omega) (by omega)).trans HDD.out.s1, (g.block _ (by omega) (by omega) (by omega)).trans HDD.out.s2, (g.block _ (by omega) (by omega) (by omega)).trans HDD.out.s3, h3.trans (g.to ?_ ?_ h3.size), h2⟩
    · omega
    · omega
  clear hr2 hm2 hRw hBw hb2 HBG HW1 k0 k1 hpw hw1s HD2 HRG HPR HLL HIB HP
  go_wp2_with fail
  refine wp_region_held_drew (S := (fun W => W.cell? ⟨R, 2, none⟩ = some (.map (some B)))) (by kernel_rfl) c2 (fun hHeld => ?_)
  refine wpAnyH_takeW (i := 0) (v := .pointer (some ⟨R, 0, none⟩)) rfl (by kernel_rfl) (by kernel_rfl) (by kernel_rfl) (fun c a w h => panic_put 22 _ (by decide) (by decide) (by decide) c a w h) (by rfl) (fun W hC => by go_simp) hHeld ?_
  simp only [Act.put, List.setIfInBounds_toArray, List.set_cons_zero, List.set_cons_succ]
  refine wpAnyH_takeW (i := 1) (v := .int .i64 (limit : Int)) rfl (by kernel_rfl) (by kernel_rfl) (by kernel_rfl) (fun c a w h => panic_put 23 _ (by decide) (by decide) (by decide) c a w h) (by rfl) (fun W hC => by go_simp) hHeld ?_
  simp only [Act.put, List.setIfInBounds_toArray, List.set_cons_zero, List.set_cons_succ]
  refine wpAnyH_takeW (i := 3) (v := .pointer (some ⟨R, 0, none⟩)) rfl (by kernel_rfl) (by kernel_rfl) (by kernel_rfl) (fun c a w h => panic_put 25 _ (by decide) (by decide) (by decide) c a w h) (by rfl) (fun W hC => by go_simp) hHeld ?_
  simp only [Act.put, List.setIfInBounds_toArray, List.set_cons_zero, List.set_cons_succ]
  refine wpAnyH_takeW (i := 4) (v := .pointer (some ⟨R, 0, none⟩)) rfl (by kernel_rfl) (by kernel_rfl) (by kernel_rfl) (fun c a w h => panic_put 26 _ (by decide) (by decide) (by decide) c a w h) (by rfl) (fun W hC => by go_simp) hHeld ?_
  simp only [Act.put, List.setIfInBounds_toArray, List.set_cons_zero, List.set_cons_succ]
  refine wpAnyH_takeW (i := 5) (v := .pointer (some ⟨R, 2, none⟩)) rfl (by kernel_rfl) (by kernel_rfl) (by kernel_rfl) (fun c a w h => panic_put 27 _ (by decide) (by decide) (by decide) c a w h) (by rfl) (fun W hC => by go_simp) hHeld ?_
  simp only [Act.put, List.setIfInBounds_toArray, List.set_cons_zero, List.set_cons_succ]
  refine wpAnyH_takeW (i := 6) (v := .map (some B)) rfl (by kernel_rfl) (by kernel_rfl) (by kernel_rfl) (fun c a w h => panic_put 28 _ (by decide) (by decide) (by decide) c a w h) (by rfl) (fun W hC => by go_simp) hHeld ?_
  simp only [Act.put, List.setIfInBounds_toArray, List.set_cons_zero, List.set_cons_succ]
  refine wpAnyH_ready (rs := [2]) (by kernel_rfl) (by simp) ?_
  refine AllReadyH.consW rfl (fun K hK => ?_) AllReadyH.nil
  go_simp
  refine HST.out.mono ?_
  rintro e w3 ⟨hg3, hx3⟩
  have HD3 := hid (HG3.out w3 hg3)
  clear HG3 HDD HST HX
  cases X with
  | bad z =>
    rcases hx3 with ⟨rfl, rfl⟩ | ⟨rfl, rfl⟩ | ⟨rfl, rfl⟩
    · have HK1 := one_cell HD3.out.s1
      have HK2 := one_cell HD3.out.s2
      have HK3 := one_cell HD3.out.s3
      refine leaves_cons (f := 39) (args := #[.pointer (some ⟨C + 1, 0, none⟩), .pointer (some ⟨C + 1 + 1, 0, none⟩), .pointer (some ⟨C + 1 + 1 + 1, 0, none⟩)]) (by simp) (by simp [go_sem]) ?_
      refine (catch_stuck (C + 1) (C + 1 + 1) (C + 1 + 1 + 1) _ _ _ w3 HK1 HK2 HK3 ((one_row HD3.out.s1).frozen 0) ((one_row HD3.out.s2).frozen 0) ((one_row HD3.out.s3).frozen 0) (by omega) (by omega) (by omega)).mono ?_
      rintro e u' w4 ⟨rfl, rfl, hw4⟩
      have HD4 : Hid (WdS C size aL nL cL (.slice none 0 0) (.map none) (.iface 68 (.int .i64 7)) w w4) := by
        unfold Hid
        rw [hw4]
        exact (HD3.out.step ((Below.refl _ _).alloc (Nat.le_refl _) _)).put _ _ _
      have e1 : w4.cell? ⟨C + 1, 0, none⟩ = some (.slice none 0 0) := one_cell HD4.out.s1
      have e2 : w4.cell? ⟨C + 1 + 1, 0, none⟩ = some (.map none) := one_cell HD4.out.s2
      have e3 : w4.cell? ⟨C + 1 + 1 + 1, 0, none⟩ = some (.iface 68 (.int .i64 7)) := one_cell HD4.out.s3
      have hE := HWD.out (.returned (.tuple #[.slice none 0 0, .map none, .iface 68 (.int .i64 7)])) w4 HD4.out.bel (show Ending.returned _ = Ending.returned (.tuple #[.slice none 0 0, .map none, errV 7]) from by rw [errV_nz (by decide)])
      clear hw4 HD4 HD3 HWD HK1 HK2 HK3
      simp [Leaves, settle, results, Tryz.results21, go_sem, e1, e2, e3]
      exact hE
    · have HK1 := one_cell HD3.out.s1
      have HK2 := one_cell HD3.out.s2
      have HK3 := one_cell HD3.out.s3
      refine leaves_cons (f := 39) (args := #[.pointer (some ⟨C + 1, 0, none⟩), .pointer (some ⟨C + 1 + 1, 0, none⟩), .pointer (some ⟨C + 1 + 1 + 1, 0, none⟩)]) (by simp) (by simp [go_sem]) ?_
      refine (catch_long (C + 1) (C + 1 + 1) (C + 1 + 1 + 1) _ _ _ w3 HK1 HK2 HK3 ((one_row HD3.out.s1).frozen 0) ((one_row HD3.out.s2).frozen 0) ((one_row HD3.out.s3).frozen 0) (by omega) (by omega) (by omega)).mono ?_
      rintro e u' w4 ⟨rfl, rfl, hw4⟩
      have HD4 : Hid (WdS C size aL nL cL (.slice none 0 0) (.map none) (.iface 68 (.int .i64 8)) w w4) := by
        unfold Hid
        rw [hw4]
        exact (HD3.out.step ((Below.refl _ _).alloc (Nat.le_refl _) _)).put _ _ _
      have e1 : w4.cell? ⟨C + 1, 0, none⟩ = some (.slice none 0 0) := one_cell HD4.out.s1
      have e2 : w4.cell? ⟨C + 1 + 1, 0, none⟩ = some (.map none) := one_cell HD4.out.s2
      have e3 : w4.cell? ⟨C + 1 + 1 + 1, 0, none⟩ = some (.iface 68 (.int .i64 8)) := one_cell HD4.out.s3
      have hE := HWD.out (.returned (.tuple #[.slice none 0 0, .map none, .iface 68 (.int .i64 8)])) w4 HD4.out.bel (show Ending.returned _ = Ending.returned (.tuple #[.slice none 0 0, .map none, errV 8]) from by rw [errV_nz (by decide)])
      clear hw4 HD4 HD3 HWD HK1 HK2 HK3
      simp [Leaves, settle, results, Tryz.results21, go_sem, e1, e2, e3]
      exact hE
    · have HK1 := one_cell HD3.out.s1
      have HK2 := one_cell HD3.out.s2
      have HK3 := one_cell HD3.out.s3
      refine leaves_cons (f := 39) (args := #[.pointer (some ⟨C + 1, 0, none⟩), .pointer (some ⟨C + 1 + 1, 0, none⟩), .pointer (some ⟨C + 1 + 1 + 1, 0, none⟩)]) (by simp) (by simp [go_sem]) ?_
      refine (catch_blank (C + 1) (C + 1 + 1) (C + 1 + 1 + 1) _ _ _ w3 HK1 HK2 HK3 ((one_row HD3.out.s1).frozen 0) ((one_row HD3.out.s2).frozen 0) ((one_row HD3.out.s3).frozen 0) (by omega) (by omega) (by omega)).mono ?_
      rintro e u' w4 ⟨rfl, rfl, hw4⟩
      have HD4 : Hid (WdS C size aL nL cL (.slice none 0 0) (.map none) (.iface 68 (.int .i64 10)) w w4) := by
        unfold Hid
        rw [hw4]
        exact (HD3.out.step ((Below.refl _ _).alloc (Nat.le_refl _) _)).put _ _ _
      have e1 : w4.cell? ⟨C + 1, 0, none⟩ = some (.slice none 0 0) := one_cell HD4.out.s1
      have e2 : w4.cell? ⟨C + 1 + 1, 0, none⟩ = some (.map none) := one_cell HD4.out.s2
      have e3 : w4.cell? ⟨C + 1 + 1 + 1, 0, none⟩ = some (.iface 68 (.int .i64 10)) := one_cell HD4.out.s3
      have hE := HWD.out (.returned (.tuple #[.slice none 0 0, .map none, .iface 68 (.int .i64 10)])) w4 HD4.out.bel (show Ending.returned _ = Ending.returned (.tuple #[.slice none 0 0, .map none, errV 10]) from by rw [errV_nz (by decide)])
      clear hw4 HD4 HD3 HWD HK1 HK2 HK3
      simp [Leaves, settle, results, Tryz.results21, go_sem, e1, e2, e3]
      exact hE
  | good l cs =>
    obtain ⟨v, rfl, hs3, hm3, hc3⟩ := hx3
    obtain ⟨av, nv, cv, rfl⟩ : ∃ a n c, v = .slice a n c := by
      rcases hs3.2 with ⟨h1, _⟩ | ⟨g, c, cur, h1, _⟩
      · exact ⟨_, _, _, h1⟩
      · exact ⟨_, _, _, h1⟩
    have HSS := hid hs3
    have HMM := hid hm3
    have HCK := hid hc3
    refine hK.out _ _ hc3 (fun hHeld => ?_)
    clear hK K hs3 hm3 hc3 hg3
    have k1 : w3.cell? ⟨C + 1, 0, none⟩ = some (.slice none 0 0) := one_cell HD3.out.s1
    have k2 : w3.cell? ⟨C + 1 + 1, 0, none⟩ = some (.map none) := one_cell HD3.out.s2
    have k3 : w3.cell? ⟨C + 1 + 1 + 1, 0, none⟩ = some .nilIface := one_cell HD3.out.s3
    have m1 := (one_row HD3.out.s1).frozen
    have m2 : ∀ i, w3.frozen? ⟨C + 1 + 1, i, none⟩ = false := (one_row HD3.out.s2).frozen
    have m3 : ∀ i, w3.frozen? ⟨C + 1 + 1 + 1, i, none⟩ = false := (one_row HD3.out.s3).frozen
    have HO : Hid (∀ (W : World) (g : Nat) (u : Value), g ≤ C + 3 → W.cell? ⟨R, 2, none⟩ = some (.map (some B)) → (W.setCell ⟨g, 0, none⟩ u).cell? ⟨R, 2, none⟩ = some (.map (some B))) := fun W g u hg h => (World.cell?_of_block (w := W) (a := ⟨R, 2, none⟩) (Below.heap_setCell _ _ _ _ (by have := HRB.out; show R ≠ g; omega))).trans h
    refine wpAnyH_ready (rs := [7]) (by kernel_rfl) (by simp) ?_
    refine AllReadyH.consW rfl (fun K hK => ?_) AllReadyH.nil
    go_simp
    refine hK.out _ _ (HO.out w3 (C + 1) _ (by omega) HCK.out) (fun hHeld => ?_)
    clear hK K
    refine wpAnyH_ready (rs := [8]) (by kernel_rfl) (by simp) ?_
    refine AllReadyH.consW rfl (fun K hK => ?_) AllReadyH.nil
    go_simp
    refine hK.out _ _ (HO.out _ (C + 1 + 1) _ (by omega) (HO.out w3 (C + 1) _ (by omega) HCK.out)) (fun hHeld => ?_)
    clear hK K
    refine wpAnyH_ready (rs := [9]) (by kernel_rfl) (by simp) ?_
    refine AllReadyH.consW rfl (fun K hK => ?_) AllReadyH.nil
    go_simp
    refine hK.out _ _ (HO.out _ (C + 1 + 1 + 1) _ (by omega) (HO.out _ (C + 1 + 1) _ (by omega) (HO.out w3 (C + 1) _ (by omega) HCK.out))) (fun hHeld => ?_)
    clear hK K hHeld
    refine wpAnyH_done (by kernel_rfl) ?_ _
    obtain ⟨V, hV⟩ : ∃ V, V = ((w3.setCell ⟨C + 1, 0, none⟩ (.slice av nv cv)).setCell ⟨C + 1 + 1, 0, none⟩ (.map (some B))).setCell ⟨C + 1 + 1 + 1, 0, none⟩ .nilIface := ⟨_, rfl⟩
    have HD4 : Hid (WdS C size aL nL cL (.slice av nv cv) (.map (some B)) .nilIface w V) := by unfold Hid; rw [hV]; exact HD3.out.put _ _ _
    have hoth : ∀ k, C + 3 < k → V.heap[k]? = w3.heap[k]? := fun k hk => by
      rw [hV, Below.heap_setCell _ _ _ _ (by show k ≠ C + 1 + 1 + 1; omega), Below.heap_setCell _ _ _ _ (by show k ≠ C + 1 + 1; omega), Below.heap_setCell _ _ _ _ (by show k ≠ C + 1; omega)]
    have HSV : Hid (StR w.heap.size V (.slice av nv cv) l) := by
      refine ⟨HSS.out.1, ?_⟩
      have hs2 := HS2.out
      rcases HSS.out.2 with hn | ⟨g, cap, cur, h1, hb, hg, rest⟩
      · exact .inl hn
      · exact .inr ⟨g, cap, cur, h1, by omega, (hoth g (by omega)).trans hg, rest⟩
    have HMV : Hid (MapAt V B (1 + 2 * l.length) cs) := by
      obtain ⟨D, ⟨es, cl, d1, d2⟩, d3⟩ := HMM.out
      exact ⟨D, ⟨es, cl, (hoth B HRB.out.2).trans d1, d2⟩, d3⟩
    clear hoth
    go_wp2_with fail
    rw [← hV]
    refine leaves_cons (f := 39) (args := #[.pointer (some ⟨C + 1, 0, none⟩), .pointer (some ⟨C + 1 + 1, 0, none⟩), .pointer (some ⟨C + 1 + 1 + 1, 0, none⟩)]) (by simp) (by simp [go_sem]) ?_
    refine (catch_idle ⟨C + 1, 0, none⟩ ⟨C + 1 + 1, 0, none⟩ ⟨C + 1 + 1 + 1, 0, none⟩ V).mono ?_
    rintro e u' w4 ⟨rfl, rfl, hw4⟩
    rw [hw4]
    have e1 : V.cell? ⟨C + 1, 0, none⟩ = some (.slice av nv cv) := one_cell HD4.out.s1
    have e2 : V.cell? ⟨C + 1 + 1, 0, none⟩ = some (.map (some B)) := one_cell HD4.out.s2
    have e3 : V.cell? ⟨C + 1 + 1 + 1, 0, none⟩ = some .nilIface := one_cell HD4.out.s3
    have hE := HWD.out (.returned (.tuple #[.slice av nv cv, .map (some B), .nilIface])) V HD4.out.bel ⟨_, B, rfl, HSV.out, HMV.out⟩
    clear hV hw4 HD4 HD3 HWD k1 k2 k3 m1 m2 m3 HSV HMV HSS HMM HCK HO
    simp [Leaves, settle, results, Tryz.results21, go_sem, e1, e2, e3]
    exact hE

end Go.Proofs.YtdpdmgmeieijaaaGreatDoor

namespace Go.Proofs.YtdpdmgmeieijaaaGreatDoor
open Go.RowKit Go.Maps

/-- append(l, c): a cell more -/
theorem wpList_cel {ops : Array Oper} {rest : List Oper} {o : Oper} {act : Act} {Q : Exit → Act → World → Prop} (W : World) (hgd : o.guard = none) (s x : Operand)
    (ho : o.op = .call { callee := .builtin .append, args := #[s, x], argTypes := #[34, 34] }) (v : Value) (base : Nat) (l : List (Int × Int)) (z0 z1 : Int)
    (hown : CelR base W v l) (hs : act.eval s = v) (hx : act.eval x = .slice (some ⟨W.heap.size, 0, none⟩) 1 1) (hlen : l.length ≤ 4000000) (hbase : base ≤ W.heap.size)
    (h : ∀ v' w2, CelR base w2 v' (l ++ [(z0, z1)]) → Below base W w2 → W.grownBy w2 v.ownBlock → wpList Tryz.prog ops Q rest (act.put o.dst v') w2) :
    wpList Tryz.prog ops Q (o :: rest) act (W.alloc (.cells #[.int .i64 z0, .int .i64 z1] 58)) := by
  obtain ⟨cs, hcs⟩ : ∃ cs, cs = #[Value.int .i64 z0, .int .i64 z1] := ⟨_, rfl⟩
  rw [← hcs]
  have hbw : Below W.heap.size W (W.alloc (.cells cs 58)) := (Below.refl _ _).alloc (Nat.le_refl _) _
  obtain ⟨i0, hi, hz0, hz1, hz2⟩ := info_parts (show (Tryz.prog.info? 58).map (fun i => (i.zero, i.size, i.bytes)) = some (some (.agg #[.int .i64 0, .int .i64 0]), 2, 16) by kernel_rfl)
  have h1 : (W.alloc (.cells cs 58)).ownsRow base 58 2 v l.length (celv l) := World.ownsRow.alloc hown _
  refine wpList_append_own _ hgd s x 34 ho base 58 i0 _ 2 16 Tryz.underlying34 hi hz0 hz1 hz2 rfl (by decide) _ _ _ hs h1 ⟨W.heap.size, 0, none⟩ 1 1 cs.toList hx (by rw [hcs]; rfl) ?_ ?_ (by unfold maxLen; omega) (by omega) (by simp; omega) ?_
  · intro j t hj
    have hc : (W.alloc (.cells cs 58)).heap[W.heap.size]? = some (.cells cs 58 (0, 0)) := heap_alloc_new W _
    have hadd : (⟨W.heap.size, 0, none⟩ : Addr).add j = ⟨W.heap.size, j, none⟩ := by unfold Addr.add; split <;> simp_all
    rw [hadd]
    simp only [World.cell?, hc]
    simpa using hj
  · intro t ht
    rw [hcs] at ht
    have ht2 : t = .int .i64 z0 ∨ t = .int .i64 z1 := by simpa using ht
    rcases ht2 with rfl | rfl <;> rfl
  · intro v' w2 hown2 hgrow _
    have hB0 : Below base (W.alloc (.cells cs 58)) w2 := (Below.refl base _).grown hgrow (by simp; omega) (fun k hk => (h1.lt k hk).1)
    refine h v' w2 ?_ ((hbw.mono hbase).trans hB0) ⟨hgrow.os, hgrow.tape, hgrow.output, by have := hgrow.size; simp at this; omega, fun k hk hne => (hgrow.block k (by simp; omega) hne).trans (hbw.block k hk)⟩
    unfold CelR
    rw [celv_app, List.length_append]
    rw [hcs] at hown2
    simpa [celv] using hown2

theorem same_int (a b : Int) : (Lit.int .i64 a).sameKey (Lit.int .i64 b) = decide (a = b) := by
  by_cases h : a = b
  · subst h
    simp [Lit.sameKey]
  · rw [sameKey_ne (by intro e; injection e with _ e; exact h e), decide_eq_false h]
/-- what is collected -/
structure AsI (B r n : Nat) (D : DataW Unit) (left : Lit → Bool) (cnt : Nat) (l : List (Int × Int)) (v : Value) (w W : World) : Prop where
  rg : W.ranges Tryz.prog 3 (plainElem Tryz.prog 3) B r n D left cnt
  own : CelR w.heap.size W v l
  mem : ∀ x y, (x, y) ∈ l ↔ (x ≠ 0 ∧ I64 x ∧ Maps.has D (.int .i64 x) = true ∧ left (.int .i64 x) = false ∧ D.atKey (.int .i64 x) (.lit (.int .i64 0)) = .lit (.int .i64 y))
  nd : (l.map Prod.fst).Nodup
  bel : Below w.heap.size w W
  len : l.length + cnt ≤ n
theorem mem_step {D : DataW Unit} {left : Lit → Bool} {l : List (Int × Int)} {x c : Int} (hx : x ≠ 0) (h64 : I64 x) (hl : left (.int .i64 x) = true) (hat : ∀ zd, D.atKey (.int .i64 x) zd = .lit (.int .i64 c))
    (h : ∀ x y, (x, y) ∈ l ↔ (x ≠ 0 ∧ I64 x ∧ Maps.has D (.int .i64 x) = true ∧ left (.int .i64 x) = false ∧ D.atKey (.int .i64 x) (.lit (.int .i64 0)) = .lit (.int .i64 y))) :
    ∀ x' y, (x', y) ∈ l ++ [(x, c)] ↔ (x' ≠ 0 ∧ I64 x' ∧ Maps.has D (.int .i64 x') = true ∧ (fun z : Lit => left z && !z.sameKey (.int .i64 x)) (.int .i64 x') = false ∧ D.atKey (.int .i64 x') (.lit (.int .i64 0)) = .lit (.int .i64 y)) := fun x' y => by
  rw [List.mem_append, h x' y]
  simp only [same_int]
  by_cases e : x' = x
  · subst e
    simp only [hl, List.mem_singleton, Prod.mk.injEq, true_and, decide_true, Bool.not_true, Bool.and_false]
    constructor
    · rintro (⟨_, _, _, h4, _⟩ | rfl)
      · cases h4
      · exact ⟨hx, h64, has_true_of_atKey hat, hat _⟩
    · rintro ⟨_, _, _, h5⟩
      rw [hat] at h5
      injection h5 with h5
      injection h5 with _ h5
      exact .inr h5.symm
  · simp [e]
theorem mem_skip {D : DataW Unit} {left : Lit → Bool} {l : List (Int × Int)}
    (h : ∀ x y, (x, y) ∈ l ↔ (x ≠ 0 ∧ I64 x ∧ Maps.has D (.int .i64 x) = true ∧ left (.int .i64 x) = false ∧ D.atKey (.int .i64 x) (.lit (.int .i64 0)) = .lit (.int .i64 y))) :
    ∀ x' y, (x', y) ∈ l ↔ (x' ≠ 0 ∧ I64 x' ∧ Maps.has D (.int .i64 x') = true ∧ (fun z : Lit => left z && !z.sameKey (.int .i64 0)) (.int .i64 x') = false ∧ D.atKey (.int .i64 x') (.lit (.int .i64 0)) = .lit (.int .i64 y)) := fun x' y => by
  rw [h x' y]
  simp only [same_int]
  by_cases e : x' = 0
  · simp [e]
  · simp [e]

end Go.Proofs.YtdpdmgmeieijaaaGreatDoor

namespace Go.Proofs.YtdpdmgmeieijaaaGreatDoor
open Go.RowKit Go.Maps

theorem wf_boundsM {x : Int} (h : (Lit.int .i64 x).wf = true) : I64 x := bounds_i64 h
/-- what slices.SortFunc must do -/
def SrtAs : Prop := ∀ (base : Nat) (v : Value) (l : List (Int × Int)) (W : World), CelR base W v l → l.length ≤ 4000000 → base ≤ W.heap.size →
  Calls Tryz.prog 34 #[v, .func (.func 42) #[] #[]] W fun e w' => e = .returned (.tuple #[]) ∧ ∃ l' : List (Int × Int), l'.Perm l ∧ l'.Pairwise (fun a b => a.1 ≤ b.1) ∧ CelR base w' v l' ∧ Below base W w'
/-- what is told, ascending, but for cell 0 -/
def AscC (cs l : List (Int × Int)) : Prop := l.Pairwise (fun a b => a.1 < b.1) ∧ ∀ x y, (x, y) ∈ l ↔ (x ≠ 0 ∧ I64 x ∧ 0 ≤ finz cs x ∧ cvl cs x = y)

theorem own_ne_iter {base : Nat} {W : World} {v : Value} {l : List (Int × Int)} {B r n : Nat} {D : DataW Unit} {left : Lit → Bool} {cnt : Nat} (h : CelR base W v l) (hr : W.ranges Tryz.prog 3 (plainElem Tryz.prog 3) B r n D left cnt) : some B ≠ v.ownBlock ∧ some r ≠ v.ownBlock := by
  obtain ⟨es, cl, si, se, c0, h1, _, _, _, h2, _⟩ := hr
  rcases h.2 with ⟨rfl, _⟩ | ⟨g, cap, cur, rfl, _, hg, _⟩
  · exact ⟨(by intro e; cases e), (by intro e; cases e)⟩
  · constructor
    · intro e
      have e' : some B = some g := e
      injection e' with e'
      subst e'
      rw [hg] at h1
      injection h1 with h1
      cases h1
    · intro e
      have e' : some r = some g := e
      injection e' with e'
      subst e'
      rw [hg] at h2
      injection h2 with h2
      cases h2

set_option maxRecDepth 100000 in
set_option maxHeartbeats 2000000 in
theorem pasc_any (SO : SrtAs) (B n : Nat) (cs : List (Int × Int)) (w : World) (hM : MapAt w B n cs) (hn : n ≤ 4000000) :
    Calls Tryz.prog 22 #[.map (some B)] w fun e w' => ∃ v l, e = .returned v ∧ CelR w.heap.size w' v l ∧ AscC cs l ∧ Below w.heap.size w w' := by
  obtain ⟨D, hD, hC⟩ := hM
  have HSO := hid SO
  have HCM := hid hC
  have HDD := hid hD
  have HSZ := hid hD.size_le
  clear SO hC
  go_enter Tryz.func22, Tryz.ntmps22
  go_wp2_with (first | (at_range; refine wpList_range_own _ rfl _ 61 rfl 3 3 keyI Tryz.underlying61 _ B n D rfl hD ?_; intro w0 hrg0 hg0 hs0))
  go_frame
  have HI0 : Hid (AsI B w.heap.size n D (Maps.has D) (Maps.size D) [] (.slice none 0 0) w w0) := ⟨hrg0, World.ownsRow_nil _ _ _ _, fun x y => ⟨fun h => (by cases h), fun h => by rw [h.2.2.1] at h; exact absurd h.2.2.2.1 (by simp)⟩, List.nodup_nil, ⟨hg0.os, hg0.tape, hg0.output, hg0.size, fun k hk => hg0.block k hk (by simp)⟩, by simpa using HSZ.out⟩
  clear hrg0 hg0 hs0 hD
  go_loopw [3] (fun lv wr => ∃ (left : Lit → Bool) (cnt : Nat) (l : List (Int × Int)), Hid (AsI B w.heap.size n D left cnt l lv w wr)) (fun _ wr => wr.rangeLeft B w.heap.size)
  case atStart => exact ⟨_, _, _, HI0.out⟩
  case round =>
    obtain ⟨left, cnt, l, HI⟩ := hrel
    have hrg := HI.out.rg
    go_wp2_with (at_next; refine wpList_next_ranges_ii _ rfl _ rfl 3 3 .i64 .i64 keyI Tryz.underlying3 Tryz.underlying3 B w.heap.size n D left cnt rfl hrg ?_ ?_)
    · intro _ hl0
      have HST := hid (HSO.out w.heap.size u3 l wr HI.out.own (by have := HI.out.len; omega) HI.out.bel.size)
      have HL0 := hid hl0
      clear hl0 hrg HSO HI0
      go_wp2_with fail
      refine HST.out.mono ?_
      rintro e w2 ⟨rfl, l', hpm, hsr, hcl, hb2⟩
      have HEND : Hid (∃ v l, Ending.returned u3 = .returned v ∧ CelR w.heap.size w2 v l ∧ AscC cs l ∧ Below w.heap.size w w2) := by
        have hmem : ∀ x y, (x, y) ∈ l' ↔ (x ≠ 0 ∧ I64 x ∧ 0 ≤ finz cs x ∧ cvl cs x = y) := fun x y => by
          rw [hpm.mem_iff, HI.out.mem x y]
          constructor
          · rintro ⟨e1, e2, e3, _, e5⟩
            have hc := HCM.out x e2
            rw [e3] at hc
            rw [hc.2] at e5
            injection e5 with e5
            injection e5 with _ e5
            exact ⟨e1, e2, of_decide_eq_true hc.1.symm, e5⟩
          · rintro ⟨e1, e2, e3, e4⟩
            have hc := HCM.out x e2
            exact ⟨e1, e2, by rw [hc.1]; exact decide_eq_true e3, HL0.out _, by rw [hc.2, e4]⟩
        refine ⟨u3, l', rfl, hcl, ⟨?_, hmem⟩, HI.out.bel.trans hb2⟩
        have hnd : (l'.map Prod.fst).Nodup := (hpm.map Prod.fst).nodup_iff.2 HI.out.nd
        have hnd2 : l'.Pairwise (fun a b => a.1 ≠ b.1) := by
          unfold List.Nodup at hnd
          exact List.pairwise_map.1 hnd
        exact (hsr.and hnd2).imp (fun h => by have h1 := h.1; have h2 := h.2; omega)
      clear hpm hsr hcl hb2 HST HI HCM HL0
      go_wp2_with fail
      go_ret
      exact HEND.out
    · intro x c w1 cnt1 hwx hwc hlx hat hrg1 hlt hg1 hs1 hen
      have h64 : I64 x := wf_boundsM hwx
      have HO1 : Hid (CelR w.heap.size w1 u3 l) := World.ownsRow.kept HI.out.own hg1 (by
        have h2 := (own_ne_iter HI.out.own hrg).2
        cases hv : u3.ownBlock with
        | none => exact .inl rfl
        | some k => exact .inr (by rw [← hv]; exact Ne.symm h2))
      have HB1 : Hid (Below w.heap.size w w1) := HI.out.bel.trans ⟨hg1.os, hg1.tape, hg1.output, hg1.size, fun k hk => hg1.block k (Nat.lt_of_lt_of_le hk HI.out.bel.size) (by intro e; injection e with e; omega)⟩
      have HR1 := hid hrg1
      have HRO := hid hrg
      have HLT := hid hlt
      by_cases h0 : x = 0
      · subst h0
        have HN : Hid (AsI B w.heap.size n D (fun z => left z && !z.sameKey (.int .i64 0)) cnt1 l u3 w w1) := ⟨hrg1, HO1.out, mem_skip HI.out.mem, HI.out.nd, HB1.out, by have := HI.out.len; omega⟩
        clear hrg hrg1 hg1 hs1 hlt hat hlx HSO
        go_wp2_with fail
        exact ⟨⟨_, _, _, HN.out⟩, by rw [HR1.out.left_eq, HRO.out.left_eq]; exact HLT.out⟩
      · have hx0 : (x != 0) = true := by simp [h0]
        have HMS := hid (mem_step h0 h64 hlx hat HI.out.mem)
        have HND : Hid (((l ++ [(x, c)]).map Prod.fst).Nodup) := by
          unfold Hid
          rw [List.map_append, List.nodup_append]
          refine ⟨HI.out.nd, by simp, fun a ha b hb => ?_⟩
          rintro rfl
          obtain ⟨⟨a', y⟩, h1, rfl⟩ := List.mem_map.1 ha
          have hb' : a' = x := by simpa using hb
          subst hb'
          have := ((HI.out.mem a' y).1 h1).2.2.2.1
          rw [hlx] at this
          cases this
        have HLN : Hid (l.length ≤ 4000000 ∧ l.length + 1 + cnt1 ≤ n) := ⟨by have := HI.out.len; omega, by have := HI.out.len; omega⟩
        clear hrg hrg1 hg1 hs1 hlt hat hlx HSO
        go_wp2_with (at_builtin; refine wpList_cel w1 rfl _ _ rfl _ w.heap.size l x c HO1.out rfl rfl HLN.out.1 HB1.out.size ?_)
        intro v' w2 hc2 hb2 hg2
        have hne := own_ne_iter HO1.out HR1.out
        have hr2 := HR1.out.kept hg2 hne.1 hne.2
        have HN : Hid (AsI B w.heap.size n D (fun z => left z && !z.sameKey (.int .i64 x)) cnt1 (l ++ [(x, c)]) v' w w2) := ⟨hr2, hc2, HMS.out, HND.out, HB1.out.trans hb2, by rw [List.length_append]; exact HLN.out.2⟩
        have HR2 := hid hr2
        clear hc2 hb2 hg2 hne hr2
        go_wp2_with fail
        exact ⟨⟨_, _, _, HN.out⟩, by rw [HR2.out.left_eq, HRO.out.left_eq]; exact HLT.out⟩

end Go.Proofs.YtdpdmgmeieijaaaGreatDoor
