/- Package pledge: extend: a question. Package code: Distance; the reference's. -/
import Derived.Test.YtmmlphdekeflfaaGreatDoorPbAR
import Derived.Test.YtmmlphdekeflfaaGreatDoorPbAF
import Derived.Deep.QuietTactic
namespace Go.Proofs.YtmmlphdekeflfaaGreatDoor
open Go.RowKit

theorem newr_of_owns {w : World} {base : Nat} {v : Value} {zs : List Int} (h : w.ownsRow base 3 1 v zs.length (zs.map (Value.int .i64))) : ∃ a cap, v = .slice a zs.length cap ∧ Lst w.heap.size w a cap zs ∧ NewR base w a zs := by
  obtain ⟨a, cap, e, l⟩ := lst_of_owns h
  refine ⟨a, cap, e, l, fun k hk => ?_⟩
  obtain ⟨b, o, e1, e2, e3⟩ := l.row k hk
  have := h.lt b (by rw [e, e1]; rfl)
  exact ⟨b, o, e1, this, e3⟩
/-- what extend holds: the field, the weights, all new from lo on -/
structure ExQ (w : World) (lo B0 B1 b : Nat) (L : List Int) : Prop where
  f : w.cell? ⟨B0, 0, none⟩ = some (.pointer (some ⟨b, 0, none⟩))
  lo0 : lo ≤ B0
  lo1 : lo ≤ B1
  w' : ∃ aw cw, w.cell? ⟨B1, 0, none⟩ = some (.slice aw L.length cw) ∧ Lst w.heap.size w aw cw L ∧ NewR lo w aw L
theorem ExQ.blocks {w W : World} {lo B0 B1 b : Nat} {L : List Int} (h : ExQ w lo B0 B1 b L) (hs : w.heap.size ≤ W.heap.size) (e : ∀ k, lo ≤ k → k < w.heap.size → W.heap[k]? = w.heap[k]?) : ExQ W lo B0 B1 b L := by
  obtain ⟨h1, l0, l1, aw, cw, h2, h3, h4⟩ := h
  have hc : ∀ {x : Addr} {v : Value}, lo ≤ x.block → w.cell? x = some v → W.cell? x = some v := fun {x v} hl hx => (World.cell?_of_block (w := w) (e x.block hl (World.block_lt_of_cell? _ _ hx))).trans hx
  exact ⟨hc l0 h1, l0, l1, aw, cw, hc l1 h2, ⟨fun k hk => by
    obtain ⟨b', o', e1, e2, e3⟩ := h4 k hk
    exact ⟨b', o', e1, Nat.lt_of_lt_of_le e2.2 hs, hc e2.1 e3⟩, h3.room, h3.nil⟩, fun k hk => by
    obtain ⟨b', o', e1, e2, e3⟩ := h4 k hk
    exact ⟨b', o', e1, ⟨e2.1, Nat.lt_of_lt_of_le e2.2 hs⟩, hc e2.1 e3⟩⟩
theorem ExQ.below {w W : World} {lo B0 B1 b : Nat} {L : List Int} (h : ExQ w lo B0 B1 b L) (e : Below w.heap.size w W) : ExQ W lo B0 B1 b L := h.blocks e.size (fun k _ hk => e.block k hk)

set_option maxRecDepth 100000 in
set_option maxHeartbeats 1000000 in
theorem extend_any (p b cap : Nat) (y : Value) (hi lo : Int) (a : Option Addr) (at' : List Int) (w : World) (h3 : 3 ≤ p) (hm : p ≤ 2147483647) (hp : w.cell? ⟨b, 0, none⟩ = some (.int .i64 p)) (hv : at'.length ≤ 12) (hf : Fits at') (hr : RowB w.heap.size w a at') :
    Calls Tryz.prog 54 #[.agg #[.pointer (some ⟨b, 0, none⟩), y, .int .i64 hi, .int .i64 lo], .slice a at'.length cap] w fun e w' => ∃ B0 B1, e = .returned (.func (.func 107) #[] #[.pointer (some ⟨B0, 0, none⟩), .pointer (some ⟨B1, 0, none⟩)]) ∧ ExQ w' w.heap.size B0 B1 b (wgL p at') ∧ Below w.heap.size w w' := by
  obtain ⟨W1, hW1⟩ : ∃ W1, W1 = w.alloc (.cells #[.pointer (some ⟨b, 0, none⟩), y, .int .i64 hi, .int .i64 lo] 92) := ⟨_, rfl⟩
  obtain ⟨G, hG⟩ : ∃ G, G = w.heap.size := ⟨_, rfl⟩
  have hb1 : Below w.heap.size w W1 := by rw [hW1]; exact (Below.refl _ _).alloc (Nat.le_refl _) _
  have hs1 : W1.heap[G]? = some (.cells #[.pointer (some ⟨b, 0, none⟩), y, .int .i64 hi, .int .i64 lo] 92 (0, 0)) := by rw [hW1, hG]; exact heap_alloc_new w _
  have HWG := hid (weights_any p b cap y hi lo a at' W1 h3 hm ((hb1.cell (p := ⟨b, 0, none⟩) (heap_lt hp)).trans hp) hv hf ((hr.below hb1).mono hb1.size))
  have HEX : Hid (∀ (W : World) (v : Value), Below W1.heap.size W1 W → W.ownsRow W1.heap.size 3 1 v (wgL p at').length ((wgL p at').map (Value.int .i64)) → ExQ (W.alloc (.cells #[v] 23)) w.heap.size G W.heap.size b (wgL p at') ∧ Below w.heap.size w (W.alloc (.cells #[v] 23))) := fun W v hW ho => by
    have hb2 : Below W.heap.size W (W.alloc (.cells #[v] 23)) := (Below.refl _ _).alloc (Nat.le_refl _) _
    obtain ⟨aw, cw, rfl, hl, hnw⟩ := newr_of_owns ho
    have e1 := (hb2.block G (Nat.lt_of_lt_of_le (Array.getElem?_eq_some_iff.1 hs1).1 hW.size)).trans ((hW.block G (Array.getElem?_eq_some_iff.1 hs1).1).trans hs1)
    have e2 := heap_alloc_new W (.cells #[.slice aw (wgL p at').length cw] 23)
    generalize W.alloc (.cells #[.slice aw (wgL p at').length cw] 23) = W2 at *
    exact ⟨⟨by simp [World.cell?, e1], by omega, Nat.le_trans hb1.size hW.size, aw, cw, by simp [World.cell?, e2], (hl.below hb2).mono hb2.size, fun k hk => by
      obtain ⟨b', o', e1, e2, e3⟩ := hnw k hk
      exact ⟨b', o', e1, ⟨Nat.le_trans hb1.size e2.1, Nat.lt_of_lt_of_le e2.2 hb2.size⟩, (hb2.cell (p := ⟨b', o' + k, none⟩) e2.2).trans e3⟩⟩, (hb1.trans (hW.mono hb1.size)).trans (hb2.mono (Nat.le_trans hb1.size hW.size))⟩
  have g0 : W1.cell? ⟨G, 0, none⟩ = some (.pointer (some ⟨b, 0, none⟩)) := by simp [World.cell?, hs1]
  have g1 : W1.cell? ⟨G, 1, none⟩ = some y := by simp [World.cell?, hs1]
  have g2 : W1.cell? ⟨G, 2, none⟩ = some (.int .i64 hi) := by simp [World.cell?, hs1]
  have g3 : W1.cell? ⟨G, 3, none⟩ = some (.int .i64 lo) := by simp [World.cell?, hs1]
  generalize at'.length = n at *
  have HW1 := hid hW1
  have HG := hid hG
  clear hp hr hf hs1 hb1 hW1 hG hv
  go_enter Tryz.func54, Tryz.ntmps54
  go_wp2_with fail
  rw [← HG.out, ← HW1.out]
  clear HW1 HG g0 g1 g2 g3
  refine HWG.out.mono ?_
  rintro e w2 ⟨v, rfl, ho, hb2⟩
  have HX := hid (HEX.out w2 v hb2 ho)
  obtain ⟨aw, cw, rfl, _⟩ := lst_of_owns ho
  clear HEX ho hb2 HWG
  generalize (wgL p at').length = m at *
  go_wp2_with fail
  go_ret
  exact ⟨_, _, rfl, HX.out⟩

set_option maxRecDepth 100000 in
set_option maxHeartbeats 1000000 in
theorem extq_any (p b lo B0 B1 cap : Nat) (a : Option Addr) (zs L : List Int) (w : World) (h3 : 3 ≤ p) (hm : p ≤ 2147483647) (hp : w.cell? ⟨b, 0, none⟩ = some (.int .i64 p)) (hX : ExQ w lo B0 B1 b L) (hn : zs.length ≤ L.length) (hn2 : zs.length ≤ 281474976710656) (hf : Fits zs) (hfL : Fits L) (hr : RowB w.heap.size w a zs) :
    Calls Tryz.prog 107 #[.slice a zs.length cap, .pointer (some ⟨B0, 0, none⟩), .pointer (some ⟨B1, 0, none⟩)] w fun e w' => e = .returned (.int .i64 (dtz p zs.length zs L)) ∧ Below w.heap.size w w' := by
  have hmx : Tryz.prog.follows .mixedOrders = true := by kernel_rfl
  obtain ⟨hx0, _, _, aw, cw, hx1, hlw, _⟩ := hX
  have HR1 := hid hr
  have HR2 := hid hlw.row
  have HF1 := hid hf
  have HF2 := hid hfL
  have HKP : Hid (∀ W, Below w.heap.size w W → W.cell? ⟨B0, 0, none⟩ = some (.pointer (some ⟨b, 0, none⟩)) ∧ W.cell? ⟨B1, 0, none⟩ = some (.slice aw L.length cw) ∧ W.cell? ⟨b, 0, none⟩ = some (.int .i64 p)) := fun W hW =>
    ⟨(hW.cell (p := ⟨B0, 0, none⟩) (heap_lt hx0)).trans hx0, (hW.cell (p := ⟨B1, 0, none⟩) (heap_lt hx1)).trans hx1, (hW.cell (p := ⟨b, 0, none⟩) (heap_lt hp)).trans hp⟩
  obtain ⟨n, hnn⟩ : ∃ n, n = zs.length := ⟨_, rfl⟩
  obtain ⟨m, hmm⟩ : ∃ m, m = L.length := ⟨_, rfl⟩
  rw [← hnn, ← hmm] at hn
  rw [← hnn] at hn2 ⊢
  rw [← hmm] at HKP
  have HN := hid hnn
  have HM := hid hmm
  obtain ⟨S, hS⟩ : ∃ S : Nat → Int, S = fun k => dtz p k zs L := ⟨_, rfl⟩
  have HS1 : Hid (∀ k, (S k + zat zs k * zat L k % (p : Int)) % (p : Int) = S (k + 1)) := fun k => by rw [hS]; exact dtz_succ p k zs L
  have HS2 : Hid (∀ k, 0 ≤ S k ∧ S k < p) := fun k => by rw [hS]; exact dtz_bounds p k zs L h3
  have HS0 : Hid (S 0 = 0) := by unfold Hid; rw [hS]; exact dtz_zero p zs L
  rw [show dtz p n zs L = S n from by rw [hS]]
  clear hf hfL hr hlw hx0 hx1 hp hnn hmm hS
  go_enter Tryz.func107, Tryz.ntmps107
  go_wp2_with fail
  go_loopw [5, 10] (fun sv iv wr => ∃ k : Nat, k ≤ n ∧ iv = .int .i64 (k : Int) ∧ sv = .int .i64 (S k) ∧ Hid (Below w.heap.size w wr)) (fun _ iv _ => n - (intOf iv).toNat)
  case atStart => exact ⟨0, by omega, rfl, by rw [HS0.out], Below.refl _ _⟩
  case round =>
    obtain ⟨k, hk, rfl, rfl, hI⟩ := hrel
    by_cases hlt : k < n
    · have hlt2 : (k : Int) < (n : Int) := by omega
      have hlt3 : (k : Int) < (m : Int) := by omega
      have hks : IntKind.i64.wrap ((k : Int) + 1) = (k : Int) + 1 := by rw [IntKind.wrap_i64]; omega
      obtain ⟨b1, o1, rfl, hb1, x1⟩ := HR1.out k (by rw [← HN.out]; exact hlt)
      obtain ⟨b2, o2, rfl, hb2, x2⟩ := HR2.out k (by rw [← HM.out]; omega)
      have y1 := (hI.out.cell (p := ⟨b1, o1 + k, none⟩) hb1).trans x1
      have y2 := (hI.out.cell (p := ⟨b2, o2 + k, none⟩) hb2).trans x2
      obtain ⟨z1, z2, z3⟩ := HKP.out wr hI.out
      obtain ⟨f1, f2⟩ := HF1.out.all k
      obtain ⟨g1, g2⟩ := HF2.out.all k
      have s1 := HS2.out k
      have HS3 := hid (HS1.out k)
      have HMU := hid (mul_any p b (zat zs k) (zat L k) wr.drew h3 hm (HKP.out _ hI.out.drew).2.2 f1 f2 g1 g2)
      obtain ⟨t1, t2⟩ := emod_bounds (zat zs k * zat L k) p h3
      generalize zat zs k * zat L k % (p : Int) = t at *
      generalize zat zs k = x at *
      generalize zat L k = y at *
      have HAD := hid (add_any p b (S k) t wr.drew h3 hm (HKP.out _ hI.out.drew).2.2 (by omega) (by omega) (by omega) (by omega))
      rw [HS3.out] at HAD
      clear x1 x2 HS3
      go_wp2_with fail
      go_still_tail 12, hmx
      still_call HMU.out
      repeat still_step
      still_call HAD.out
      repeat still_step
      refine wpStill_nil ?_
      go_wp2_with fail
      go_roundw
      case rel => exact ⟨k + 1, by omega, by go_num, rfl, hI.out.drew⟩
      case measure => simp [intOf]; omega
    · obtain rfl : k = n := by omega
      have hlt2 : ¬ (k : Int) < (k : Int) := by omega
      go_wp2_with fail
      go_ret
      exact ⟨rfl, hI.out⟩

end Go.Proofs.YtmmlphdekeflfaaGreatDoor

namespace Go.Proofs.YtmmlphdekeflfaaGreatDoor
open Go.RowKit

/-- do two lists differ at a place? -/
def dq (p : Nat) (xs ys : List Int) (j : Nat) : Bool := !(decide (j < xs.length) && decide (j < ys.length) && (zat xs j % (p : Int) == zat ys j % (p : Int)))
/-- at how many places two lists differ -/
def dist (p : Nat) (xs ys : List Int) : Nat := Cod.cnt (dq p xs ys) (max xs.length ys.length)

end Go.Proofs.YtmmlphdekeflfaaGreatDoor
