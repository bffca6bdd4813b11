/- attestref6.Run. Steps of a walk: their bounds. Package rules and its reference: what shows that something is not 0. Package rules: a row that shows one step. Package rules: Said, RowsOf, has, brokenIn, isWide. -/
import Derived.Test.YtaibngnabhmabajDoorBbBC
import Derived.Test.YtaibngnabhmabajDoorBbAO
import Derived.Test.YtaibngnabhmabajDoorBbAV
import Derived.Test.YtaibngnabhmabajDoorBbAG
import Derived.Test.YtaibngnabhmabajDoorBbAX
import Derived.Test.YtaibngnabhmabajDoorFld
import Derived.Test.YtaibngnabhmabajDoorBbBB
import Derived.Laws.CopyOwn
import Derived.Deep.RegionLaw
import Derived.Test.YtaibngnabhmabajDoorBbAQ
namespace Go.Proofs.YtaibngnabhmabajDoor
open Go.RowKit Go.Maps

end Go.Proofs.YtaibngnabhmabajDoor

namespace Go.Proofs.YtaibngnabhmabajDoor
open Go.RowKit Go.Maps

end Go.Proofs.YtaibngnabhmabajDoor

namespace Go.Proofs.YtaibngnabhmabajDoor
open Go.RowKit

end Go.Proofs.YtaibngnabhmabajDoor

namespace Go.Proofs.YtaibngnabhmabajDoor
open Go.RowKit Go.Maps

/-- a row of numbers that is a block, whole -/
def BRow (g : Nat) (w : World) (l : List Int) : Prop := w.heap[g]? = some (.cells (l.map (Value.int .i64)).toArray 3 (0, 0))
theorem BRow.rowIs {g : Nat} {w : World} {l : List Int} (h : BRow g w l) : w.rowIs g 3 l.length (fun i => .int .i64 (zat l i)) :=
  ⟨_, h, by simp, fun i hi => by simp [zat, hi]⟩
theorem brow_of {g : Nat} {w : World} {l : List Int} (h : w.rowIs g 3 l.length (fun i => .int .i64 (zat l i))) : BRow g w l := by
  obtain ⟨c, hb, hs, hc⟩ := h
  unfold BRow
  rw [hb]
  congr 2
  apply Array.ext
  · simpa using hs
  · intro i h1 h2
    have h4 : i < l.length := by simpa using h2
    have := hc i h4
    rw [Array.getElem?_eq_getElem h1] at this
    injection this with this
    rw [this]
    simp [zat, h4]
theorem BRow.set {g : Nat} {w : World} {l : List Int} (h : BRow g w l) {k : Nat} (x : Int) (hk : k < l.length) : BRow g (w.setCell ⟨g, k, none⟩ (.int .i64 x)) (l.set k x) := by
  apply brow_of
  rw [List.length_set]
  have := h.rowIs.set k (.int .i64 x)
  obtain ⟨c, h1, h2, h3⟩ := this
  refine ⟨c, h1, h2, fun i hi => ?_⟩
  rw [h3 i hi]
  show some (if i = k then Value.int .i64 x else .int .i64 (zat l i)) = some (.int .i64 (zat (l.set k x) i))
  rw [zat_set hk]
  split <;> rfl
theorem BRow.row {g : Nat} {w : World} {l : List Int} (h : BRow g w l) : IRow g w l :=
  ⟨(Array.getElem?_eq_some_iff.1 h).1, fun k hk => by simp [World.cell?, show w.heap[g]? = _ from h, zat, hk], fun j => by simp [World.frozen?, show w.heap[g]? = _ from h]⟩
theorem BRow.block {g : Nat} {w w' : World} {l : List Int} (h : BRow g w l) (e : w'.heap[g]? = w.heap[g]?) : BRow g w' l := e.trans h
set_option maxRecDepth 100000 in
set_option maxHeartbeats 1000000 in
theorem pwidth_any (size : Int) (aL : Option Addr) (nL cL : Nat) (w : World) (hn : nL ≤ 281474976710656) :
    Calls Tryd.prog 13 #[.agg #[.int .i64 size, .slice aL nL cL]] w fun e w' => e = .returned (.int .i64 ((20 + nL : Nat) : Int)) ∧ Below w.heap.size w w' := by
  obtain ⟨W0, hW0⟩ : ∃ W0, W0 = w.alloc (.cells #[.int .i64 size, .slice aL nL cL] 24) := ⟨_, rfl⟩
  have hb0 : Below w.heap.size w W0 := by rw [hW0]; exact (Below.refl _ _).alloc (Nat.le_refl _) _
  have hs0 : W0.heap[w.heap.size]? = some (.cells #[.int .i64 size, .slice aL nL cL] 24 (0, 0)) := by rw [hW0]; exact heap_alloc_new w _
  have k1 : W0.cell? ⟨w.heap.size, 1, none⟩ = some (.slice aL nL cL) := by simp [World.cell?, hs0]
  have HB0 := hid hb0
  have hwr : IntKind.i64.wrap (20 + (nL : Int)) = ((20 + nL : Nat) : Int) := by rw [IntKind.wrap_i64]; omega
  clear hb0 hs0
  go_enter Tryd.func13, Tryd.ntmps13
  go_wp2_with fail
  rw [← hW0]
  clear hW0
  go_wp2_with fail
  go_ret
  exact ⟨by first | rfl | simp, HB0.out⟩

end Go.Proofs.YtaibngnabhmabajDoor

namespace Go.Proofs.YtaibngnabhmabajDoor
open Go.RowKit Go.Maps

theorem ownsRow_base {w : World} {b1 b2 : Nat} {t : TypeId} {k : Nat} {v : Value} {n : Nat} {xs : List Value} (h : w.ownsRow b1 t k v n xs) (hb : b2 ≤ b1) : w.ownsRow b2 t k v n xs := by
  refine ⟨h.1, ?_⟩
  rcases h.2 with h1 | ⟨g, cap, cur, h1, h2, h3⟩
  · exact .inl h1
  · exact .inr ⟨g, cap, cur, h1, Nat.le_trans hb h2, h3⟩

set_option maxRecDepth 100000 in
set_option maxHeartbeats 4000000 in
theorem psaid_any (p b : Nat) (L : List InsZ) (size out : Int) (r n : List Int) (aL : Option Addr) (cL : Nat) (ar : Option Addr) (cr : Nat) (an : Option Addr) (cn : Nat) (w : World) (H : VF p L size out r n) (hp : w.cell? ⟨b, 0, none⟩ = some (.int .i64 p)) (hI : LstI w.heap.size w aL cL L) (hr : RowB w.heap.size w ar r) (hn : RowB w.heap.size w an n) :
    Calls Tryd.prog 20 #[.pointer (some ⟨b, 0, none⟩), .agg #[.int .i64 size, .slice aL L.length cL], .int .i64 out, .slice ar r.length cr, .slice an n.length cn] w fun e w' => ∃ v, e = .returned v ∧ w'.ownsRow w.heap.size 3 1 v (rls p L size out r n).length ((rls p L size out r n).map (Value.int .i64)) ∧ Below w.heap.size w w' := by
  obtain ⟨R, hR⟩ : ∃ R : Ending → World → Prop, R = fun e w' => ∃ v, e = .returned v ∧ w'.ownsRow w.heap.size 3 1 v (rls p L size out r n).length ((rls p L size out r n).map (Value.int .i64)) ∧ Below w.heap.size w w' := ⟨_, rfl⟩
  rw [← hR]
  have HRR : Hid (∀ v W, W.ownsRow w.heap.size 3 1 v (rls p L size out r n).length ((rls p L size out r n).map (Value.int .i64)) → Below w.heap.size w W → R (.returned v) W) := fun v W h1 h2 => by rw [hR]; exact ⟨v, rfl, h1, h2⟩
  obtain ⟨W0, hW0⟩ : ∃ W0, W0 = w.alloc (.cells #[.int .i64 size, .slice aL L.length cL] 24) := ⟨_, rfl⟩
  have hb0 : Below w.heap.size w W0 := by rw [hW0]; exact (Below.refl _ _).alloc (Nat.le_refl _) _
  have hs0 : W0.heap[w.heap.size]? = some (.cells #[.int .i64 size, .slice aL L.length cL] 24 (0, 0)) := by rw [hW0]; exact heap_alloc_new w _
  have hCl : w.heap.size < W0.heap.size := (Array.getElem?_eq_some_iff.1 hs0).1
  have HB0 := hid hb0
  have HH := hid H
  have HCO : Hid (∀ W, Below W0.heap.size W0 W → W.cell? ⟨w.heap.size, 0, none⟩ = some (.int .i64 size) ∧ W.cell? ⟨w.heap.size, 1, none⟩ = some (.slice aL L.length cL)) := fun W h => by
    have := (h.block w.heap.size hCl).trans hs0
    exact ⟨by simp [World.cell?, this], by simp [World.cell?, this]⟩
  have HVW : Hid (∀ W G, Below w.heap.size w W → W.heap[G]? = some (.cells #[.pointer (some ⟨b, 0, none⟩), .int .i64 size, .slice aL L.length cL, .int .i64 out, .slice ar r.length cr, .slice an n.length cn] 65 (0, 0)) → VW p b G L size out r n aL cL ar cr an cn W) := fun W G h hG =>
    ⟨hG, (h.cell (p := ⟨b, 0, none⟩) (World.block_lt_of_cell? _ _ hp)).trans hp, (hI.below h).mono h.size, RowB.mono h.size (RowB.below h hr), RowB.mono h.size (RowB.below h hn)⟩
  have HWD := hid (fun W => pwidth_any size aL L.length cL W (by have := H.hl; omega))
  obtain ⟨nL, hnL⟩ : ∃ nL, nL = L.length := ⟨_, rfl⟩
  have hn0 : ((nL : Int) == 0) = false := by rw [beq_eq_false_iff_ne]; have := H.h1; omega
  have er : r.length = 20 + nL := by rw [hnL]; exact H.hr
  have en : n.length = 20 + nL := by rw [hnL]; exact H.hn
  rw [← hnL] at hW0 HCO HWD HVW ⊢
  rw [er, en] at HVW ⊢
  obtain ⟨m, hm⟩ : ∃ m, m = 20 + nL := ⟨_, rfl⟩
  rw [← hm] at HVW HWD ⊢
  have qm : ((m : Int) == (m : Int)) = true := by simp
  have qm2 : ((m : Int) != (m : Int)) = false := by simp
  have HSA := hid (fun W G (h : VW p b G L size out r n aL cL ar cr an cn W) => vsaid_any p b G L size out r n aL cL ar cr an cn W HH.out h)
  have HM : Hid (r.length = m ∧ n.length = m) := ⟨by rw [er, hm], by rw [en, hm]⟩
  clear hR hp hI hr hn H hnL hs0 hb0 er en hm
  go_enter Tryd.func20, Tryd.ntmps20
  go_wp2_with fail
  rw [← hW0]
  obtain ⟨k0, k1⟩ := HCO.out W0 (Below.refl _ _)
  clear hW0
  go_wp2_with fail
  refine (HWD.out _).mono ?_
  rintro e w1 ⟨rfl, hb1⟩
  have HB1 := hid hb1
  obtain ⟨k0', k1'⟩ := HCO.out w1 hb1
  clear hb1 k0 k1
  go_wp2_with fail
  refine (HWD.out _).mono ?_
  rintro e w2 ⟨rfl, hb2⟩
  have HB2 := hid (HB1.out.trans (hb2.mono HB1.out.size))
  obtain ⟨k0, k1⟩ := HCO.out w2 HB2.out
  obtain ⟨W3, hW3⟩ : ∃ W3, W3 = w2.alloc (.cells #[.pointer (some ⟨b, 0, none⟩), .int .i64 size, .slice aL nL cL, .int .i64 out, .slice ar m cr, .slice an m cn] 65) := ⟨_, rfl⟩
  have hb3 : Below w2.heap.size w2 W3 := by rw [hW3]; exact (Below.refl _ _).alloc (Nat.le_refl _) _
  have hb02 := HB0.out.trans (HB2.out.mono HB0.out.size)
  have hb03 := hb02.trans (hb3.mono hb02.size)
  have HB3 := hid hb03
  have hVW := HVW.out W3 w2.heap.size hb03 (by rw [hW3]; exact heap_alloc_new w2 _)
  have HS3 := hid (HSA.out W3 w2.heap.size hVW)
  clear hb2 hb3 hb02 hb03 hVW k0' k1' HB1 HSA HVW
  go_wp2_with fail
  rw [← hW3]
  clear hW3 k0 k1
  refine HS3.out.mono ?_
  rintro e w4 ⟨v, rfl, hsd⟩
  have HE := hid (HRR.out v w4 (ownsRow_base hsd.own HB3.out.size) (HB3.out.trans (hsd.bel.mono HB3.out.size)))
  clear hsd HS3
  go_wp2_with fail
  exact HE.out

end Go.Proofs.YtaibngnabhmabajDoor
