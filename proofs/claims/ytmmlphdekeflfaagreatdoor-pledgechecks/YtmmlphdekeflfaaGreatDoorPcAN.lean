/- Trees: the roots of groups of rows; what Open's nodes are. Plain. Package tree: Open: what stands in memory while it goes on; its errors. Package pledge: the shape of a table: wide, tall, newShape; mayAsk, isTold. A region that draws its order, walked by hand: what is read is taken first. A region that draws its order, walked by hand: an operation that is not wanted is passed by. -/
import Derived.Test.YtmmlphdekeflfaaGreatDoorPcAM
import Derived.Test.YtmmlphdekeflfaaGreatDoorPcAF
import Derived.Test.YtmmlphdekeflfaaGreatDoorDoms
import Derived.Deep.RegionHeld3
import Derived.Test.YtmmlphdekeflfaaGreatDoorFld
import Derived.OrdersHeld
namespace Go.Proofs.YtmmlphdekeflfaaGreatDoor
open Go.RowKit

end Go.Proofs.YtmmlphdekeflfaaGreatDoor

namespace Go.Proofs.YtmmlphdekeflfaaGreatDoor
open Go.RowKit

theorem results_ct {P : Program} {fn : Func} {p u : Tmp} {ty : TypeId} (h : fn.results = #[.cell p ty, .tmp u]) (tmps : Array Value) (w : World) (g : Nat) (tt : TypeId) (cs : Array Value) (fr : Nat × Nat) (d : TypeDesc)
    (hp : tmps.getD p undef = .pointer (some ⟨g, 0, none⟩)) (hg : w.heap[g]? = some (.cells cs tt fr))
    (hu : P.underlying ty = some d) (hd : (match d with | .struct _ | .array _ _ => true | _ => false) = true) (hi : (P.info? ty).map (·.size) = some cs.size) :
    (results fn tmps).run P w = .ok (.tuple #[.agg cs, tmps.getD u undef]) w := by
  have hp' : tmps[p]?.getD undef = .pointer (some ⟨g, 0, none⟩) := by simpa using hp
  simp [results, h, hp', asAddr, run_loadVar_row w g tt ty cs fr d hg hu hd hi]

/-! ## an Opening and a map alone have turned -/
/-- of the blocks two alone have turned: an Opening, and what is no cells -/
def NotC (w : World) (B : Nat) : Prop := ∀ c t f, w.heap[B]? ≠ some (.cells c t f)
theorem SlR.pair {w w' : World} {O B : Nat} {u : Value} {r : List Int} (h : SlR w r u) (hO : ∃ c f, w.heap[O]? = some (.cells c 49 f)) (hB : B = O ∨ NotC w B) (hp : Pair O B w w') : SlR w' r u :=
  h.blocks hp.size (fun b hb hn => by
    have h1 := ne_O hO hn
    refine hp.block b hb h1 ?_
    rcases hB with rfl | hB
    · exact h1
    · rintro rfl
      obtain ⟨c, t, f, h2, _⟩ := hn
      exact hB c t f h2)
theorem OwnR.pair {base : Nat} {w w' : World} {O B : Nat} {u : Value} {rs : List (List Int)} (h : OwnR base w u rs) (hO : ∃ c f, w.heap[O]? = some (.cells c 49 f)) (hB : B = O ∨ NotC w B) (hp : Pair O B w w') : OwnR base w' u rs := by
  obtain ⟨vals, ⟨h0, h1⟩, h2⟩ := h
  refine ⟨vals, ⟨h0, ?_⟩, fun j hj => ?_⟩
  · rcases h1 with h1 | ⟨g, cap, cur, h3, h4, hg, h5⟩
    · exact .inl h1
    · have hgO : g ≠ O := by
        rintro rfl
        obtain ⟨c, f, h6⟩ := hO
        rw [hg] at h6
        injection h6 with h6
        injection h6 with _ h6 _
        exact absurd h6 (by decide)
      refine .inr ⟨g, cap, cur, h3, h4, (hp.block g (Array.getElem?_eq_some_iff.1 hg).1 hgO ?_).trans hg, h5⟩
      rcases hB with rfl | hB
      · exact hgO
      · rintro rfl
        exact hB _ _ _ hg
  · obtain ⟨x, h3, h4⟩ := h2 j hj
    exact ⟨x, h3, h4.pair hO hB hp⟩
/-! ## what Open answers -/
end Go.Proofs.YtmmlphdekeflfaaGreatDoor

namespace Go.Proofs.YtmmlphdekeflfaaGreatDoor
open Go.RowKit

/-- the shape of a table over v variables -/
def shV (b d v : Nat) : Value := .agg #[.pointer (some ⟨b, 0, none⟩), .pointer (some ⟨d, 0, none⟩), .int .i64 ((v / 2 : Nat) : Int), .int .i64 ((v - v / 2 : Nat) : Int)]

set_option maxRecDepth 100000 in
set_option maxHeartbeats 1000000 in
theorem wide_any (x y : Value) (h : Int) (l : Nat) (w : World) (hl : l ≤ 12) : Calls Tryz.prog 117 #[.agg #[x, y, .int .i64 h, .int .i64 (l : Int)]] w fun e w' => e = .returned (.int .i64 ((2 ^ l : Nat) : Int)) ∧ Below w.heap.size w w' := by
  have hb : Below w.heap.size w (w.alloc (.cells #[x, y, .int .i64 h, .int .i64 (l : Int)] 92)) := (Below.refl _ _).alloc (Nat.le_refl _) _
  have HB := hid hb
  clear hb
  have hc : l = 0 ∨ l = 1 ∨ l = 2 ∨ l = 3 ∨ l = 4 ∨ l = 5 ∨ l = 6 ∨ l = 7 ∨ l = 8 ∨ l = 9 ∨ l = 10 ∨ l = 11 ∨ l = 12 := by omega
  clear hl
  rcases hc with rfl | rfl | rfl | rfl | rfl | rfl | rfl | rfl | rfl | rfl | rfl | rfl | rfl <;>
  (go_enter Tryz.func117, Tryz.ntmps117
   go_wp2_with fail
   go_ret
   exact ⟨rfl, HB.out⟩)

set_option maxRecDepth 100000 in
set_option maxHeartbeats 1000000 in
theorem tall_any (x y h : Value) (l : Nat) (w : World) (hl : l ≤ 12) : Calls Tryz.prog 120 #[.agg #[x, y, .int .i64 (l : Int), h]] w fun e w' => e = .returned (.int .i64 ((2 ^ l : Nat) : Int)) ∧ Below w.heap.size w w' := by
  have hb : Below w.heap.size w (w.alloc (.cells #[x, y, .int .i64 (l : Int), h] 92)) := (Below.refl _ _).alloc (Nat.le_refl _) _
  have HB := hid hb
  clear hb
  have hc : l = 0 ∨ l = 1 ∨ l = 2 ∨ l = 3 ∨ l = 4 ∨ l = 5 ∨ l = 6 ∨ l = 7 ∨ l = 8 ∨ l = 9 ∨ l = 10 ∨ l = 11 ∨ l = 12 := by omega
  clear hl
  rcases hc with rfl | rfl | rfl | rfl | rfl | rfl | rfl | rfl | rfl | rfl | rfl | rfl | rfl <;>
  (go_enter Tryz.func120, Tryz.ntmps120
   go_wp2_with fail
   go_ret
   exact ⟨rfl, HB.out⟩)

set_option maxRecDepth 100000 in
theorem mayAsk_any (a : Int) (w : World) : Calls Tryz.prog 51 #[.int .i64 a] w fun e w' => e = .returned (.bool (decide (1 ≤ a ∧ a ≤ 64))) ∧ w' = w := by
  by_cases h1 : 1 ≤ a
  · by_cases h2 : a ≤ 64
    · have HE : Hid (decide (1 ≤ a ∧ a ≤ 64) = true) := decide_eq_true ⟨h1, h2⟩
      rw [HE.out]
      go_enter Tryz.func51, Tryz.ntmps51
      go_wp2_with fail
      go_ret
      exact ⟨by first | rfl | simp [h1, h2], rfl⟩
    · have HE : Hid (decide (1 ≤ a ∧ a ≤ 64) = false) := decide_eq_false (fun h => h2 h.2)
      rw [HE.out]
      go_enter Tryz.func51, Tryz.ntmps51
      go_wp2_with fail
      go_ret
      exact ⟨by first | rfl | simp [h2], rfl⟩
  · have HE : Hid (decide (1 ≤ a ∧ a ≤ 64) = false) := decide_eq_false (fun h => h1 h.1)
    rw [HE.out]
    go_enter Tryz.func51, Tryz.ntmps51
    go_wp2_with fail
    go_ret
    exact ⟨by first | rfl | simp [h1], rfl⟩

set_option maxRecDepth 100000 in
set_option maxHeartbeats 1000000 in
theorem newShape_no (d : Nat) (v : Int) (w : World) (hv : v < 0 ∨ 12 < v) : Calls Tryz.prog 63 #[.pointer (some ⟨d, 0, none⟩), .int .i64 v] w fun e w' => e = .returned (.tuple #[.agg #[.pointer none, .pointer none, .int .i64 0, .int .i64 0], .bool false]) ∧ Below w.heap.size w w' := by
  have HB : Hid (Below w.heap.size w (w.alloc (.cells #[.pointer none, .pointer none, .int .i64 0, .int .i64 0] 92))) := (Below.refl _ _).alloc (Nat.le_refl _) _
  by_cases h0 : v < 0
  · clear hv
    go_enter Tryz.func63, Tryz.ntmps63
    go_wp2_with fail
    refine bodyPost_ret (results_ct rfl _ _ w.heap.size 92 #[.pointer none, .pointer none, .int .i64 0, .int .i64 0] (0, 0) _ rfl (heap_alloc_new w _) Tryz.underlying92 rfl (by kernel_rfl)) rfl ?_
    exact ⟨rfl, HB.out⟩
  · have h1 : 12 < v := by omega
    clear hv
    go_enter Tryz.func63, Tryz.ntmps63
    go_wp2_with fail
    refine bodyPost_ret (results_ct rfl _ _ w.heap.size 92 #[.pointer none, .pointer none, .int .i64 0, .int .i64 0] (0, 0) _ rfl (heap_alloc_new w _) Tryz.underlying92 rfl (by kernel_rfl)) rfl ?_
    exact ⟨rfl, HB.out⟩

set_option maxRecDepth 100000 in
set_option maxHeartbeats 2000000 in
theorem newShape_yes (d b v N : Nat) (r s : Int) (w : World) (hd : DomAt w d b (N : Int) r s) (hv : v ≤ 12) (hN : N ≤ 65536) :
    Calls Tryz.prog 63 #[.pointer (some ⟨d, 0, none⟩), .int .i64 (v : Int)] w fun e w' => e = .returned (.tuple #[shV b d v, .bool (decide (2 ^ (v - v / 2) ≤ N / 2))]) ∧ Below w.heap.size w w' := by
  obtain ⟨R, hR⟩ : ∃ R, R = w.heap.size := ⟨_, rfl⟩
  obtain ⟨W0, hW0⟩ : ∃ W0, W0 = w.alloc (.cells #[.pointer none, .pointer none, .int .i64 0, .int .i64 0] 92) := ⟨_, rfl⟩
  have hB0 : Below w.heap.size w W0 := by rw [hW0]; exact (Below.refl _ _).alloc (Nat.le_refl _) _
  have hQ0 : W0.rowIs R 92 4 (quad (.pointer none) (.pointer none) (.int .i64 0) (.int .i64 0)) := by rw [hW0, hR]; exact quad_new w _ _ _ _ _
  have hd0 : DomAt W0 d b (N : Int) r s := hd.below hB0 hd.lt
  obtain ⟨hi, hhi⟩ : ∃ hi, hi = v / 2 := ⟨_, rfl⟩
  obtain ⟨lo, hlo⟩ : ∃ lo, lo = v - v / 2 := ⟨_, rfl⟩
  have q1 : (v : Int).tdiv 2 = (hi : Int) := by rw [Int.tdiv_eq_ediv_of_nonneg (by omega)]; omega
  have q0 : (v : Int) / 2 = (hi : Int) := by omega
  have q2 : IntKind.i64.wrap (hi : Int) = (hi : Int) := by rw [IntKind.wrap_i64]; omega
  have q3 : (v : Int) - (hi : Int) = (lo : Int) := by omega
  have q4 : IntKind.i64.wrap (lo : Int) = (lo : Int) := by rw [IntKind.wrap_i64]; omega
  have q5 : IntKind.i64.wrap ((v : Int) - (hi : Int)) = (lo : Int) := by rw [q3, q4]
  obtain ⟨W1, hW1⟩ : ∃ W1, W1 = W0.alloc (.cells #[.pointer (some ⟨b, 0, none⟩), .pointer (some ⟨d, 0, none⟩), .int .i64 (hi : Int), .int .i64 (lo : Int)] 92) := ⟨_, rfl⟩
  obtain ⟨G, hG⟩ : ∃ G, G = W0.heap.size := ⟨_, rfl⟩
  have hB1 : Below W0.heap.size W0 W1 := by rw [hW1]; exact (Below.refl _ _).alloc (Nat.le_refl _) _
  have hQ1 : W1.rowIs G 92 4 (quad (.pointer (some ⟨b, 0, none⟩)) (.pointer (some ⟨d, 0, none⟩)) (.int .i64 (hi : Int)) (.int .i64 (lo : Int))) := by rw [hW1, hG]; exact quad_new W0 _ _ _ _ _
  have hQR : W1.rowIs R 92 4 (quad (.pointer none) (.pointer none) (.int .i64 0) (.int .i64 0)) := hQ0.of_block (hB1.block R hQ0.lt)
  have hGR : G ≠ R := by have := hQ0.lt; omega
  have HRW : Hid (w.heap.size ≤ R) := by unfold Hid; omega
  have HFI := hid (dfield_any d b (N : Int) r s W0 hd0)
  have hd1 := hd0.below hB1 hd0.lt
  have hb01 : Below w.heap.size w W1 := hB0.trans (hB1.mono hB0.size)
  have HSZ : Hid (∀ W, Below W1.heap.size W1 W → Calls Tryz.prog 101 #[.pointer (some ⟨d, 0, none⟩)] W fun e w' => e = .returned (.int .i64 (N : Int)) ∧ Below W1.heap.size W1 w') := fun W hW => by
    refine (size_any d b (N : Int) r s W (hd1.below hW hd1.lt)).mono ?_
    rintro e w' ⟨rfl, rfl⟩
    exact ⟨rfl, hW⟩
  obtain ⟨X, hX⟩ : ∃ X, X = 2 ^ lo := ⟨_, rfl⟩
  have HWI : Hid (∀ W, Below W1.heap.size W1 W → Calls Tryz.prog 117 #[.agg #[.pointer (some ⟨b, 0, none⟩), .pointer (some ⟨d, 0, none⟩), .int .i64 (hi : Int), .int .i64 (lo : Int)]] W fun e w' => e = .returned (.int .i64 (X : Int)) ∧ Below W1.heap.size W1 w') := fun W hW => by
    rw [hX]
    refine (wide_any _ _ _ lo W (by omega)).mono ?_
    rintro e w' ⟨rfl, h⟩
    exact ⟨rfl, hW.trans (h.mono hW.size)⟩
  have HK : Hid (∀ W, Below W1.heap.size W1 W → W.cell? ⟨G, 0, none⟩ = some (.pointer (some ⟨b, 0, none⟩)) ∧ W.cell? ⟨G, 1, none⟩ = some (.pointer (some ⟨d, 0, none⟩)) ∧ W.cell? ⟨G, 2, none⟩ = some (.int .i64 (hi : Int)) ∧ W.cell? ⟨G, 3, none⟩ = some (.int .i64 (lo : Int))) := fun W hW => by
    have h := hQ1.of_block (hW.block G hQ1.lt)
    exact ⟨h.cell (i := 0) (by omega), h.cell (i := 1) (by omega), h.cell (i := 2) (by omega), h.cell (i := 3) (by omega)⟩
  have HRR : Hid (∀ W, Below W1.heap.size W1 W → W.rowIs R 92 4 (quad (.pointer none) (.pointer none) (.int .i64 0) (.int .i64 0))) := fun W hW => hQR.of_block (hW.block R hQR.lt)
  have n0 : (N : Int).tdiv 2 = ((N / 2 : Nat) : Int) := by rw [Int.tdiv_eq_ediv_of_nonneg (by omega)]; omega
  have n1 : (N : Int) / 2 = ((N / 2 : Nat) : Int) := by omega
  have n2 : IntKind.i64.wrap ((N / 2 : Nat) : Int) = ((N / 2 : Nat) : Int) := by rw [IntKind.wrap_i64]; omega
  have HSV : Hid (shV b d v = .agg #[.pointer (some ⟨b, 0, none⟩), .pointer (some ⟨d, 0, none⟩), .int .i64 (hi : Int), .int .i64 (lo : Int)]) := by unfold Hid shV; rw [hhi, hlo]
  rw [HSV.out, ← hlo, ← hX]
  have HB01 := hid hb01
  generalize N / 2 = H at *
  have hdw : Below W1.heap.size W1 W1.drew := (Below.refl _ _).drew
  clear hd hd0 hd1 hQ0 hQ1 hQR hB0 hB1 hb01 hhi hlo hX
  go_enter Tryz.func63, Tryz.ntmps63
  go_wp2_with fail
  rw [← hW0, ← hR]
  have HW1 := hid hW1
  have HG := hid hG
  clear hW0 hW1 hG hR
  refine HFI.out.mono ?_
  rintro e w1 ⟨rfl, hw1⟩
  have hw1' := hw1.symm
  subst hw1'
  clear hw1
  go_wp2_with fail
  rw [← HG.out, ← HW1.out]
  clear HW1 HG
  have HFA : Hid (∀ W, Below W1.heap.size W1 W → (W.cell? ⟨G, 0, none⟩ = some (.pointer (some ⟨b, 0, none⟩)) ∧ W.cell? ⟨G, 1, none⟩ = some (.pointer (some ⟨d, 0, none⟩)) ∧ W.cell? ⟨G, 2, none⟩ = some (.int .i64 (hi : Int)) ∧ W.cell? ⟨G, 3, none⟩ = some (.int .i64 (lo : Int))) ∧ (W.cell? ⟨R, 0, none⟩ = some (.pointer none) ∧ W.cell? ⟨R, 1, none⟩ = some (.pointer none) ∧ W.cell? ⟨R, 2, none⟩ = some (.int .i64 0) ∧ W.cell? ⟨R, 3, none⟩ = some (.int .i64 0)) ∧ (W.frozen? ⟨R, 0, none⟩ = false ∧ W.frozen? ⟨R, 1, none⟩ = false ∧ W.frozen? ⟨R, 2, none⟩ = false ∧ W.frozen? ⟨R, 3, none⟩ = false)) := fun W hW =>
    ⟨HK.out W hW, ⟨(HRR.out W hW).cell (i := 0) (by omega), (HRR.out W hW).cell (i := 1) (by omega), (HRR.out W hW).cell (i := 2) (by omega), (HRR.out W hW).cell (i := 3) (by omega)⟩, (HRR.out W hW).frozen 0, (HRR.out W hW).frozen 1, (HRR.out W hW).frozen 2, (HRR.out W hW).frozen 3⟩
  obtain ⟨⟨g0, g1, g2, g3⟩, ⟨r0, r1, r2, r3⟩, u0, u1, u2, u3⟩ := HFA.out _ hdw
  go_region_with (first
      | (go_at_call 101; refine (HSZ.out _ (by assumption)).mono ?_; rintro e w' ⟨rfl, hb'⟩; obtain ⟨⟨g0, g1, g2, g3⟩, ⟨r0, r1, r2, r3⟩, u0, u1, u2, u3⟩ := HFA.out _ hb')
      | (go_at_call 117; refine (HWI.out _ (by assumption)).mono ?_; rintro e w' ⟨rfl, hb'⟩; obtain ⟨⟨g0, g1, g2, g3⟩, ⟨r0, r1, r2, r3⟩, u0, u1, u2, u3⟩ := HFA.out _ hb'))
  all_goals
    go_wp2_with fail
    refine bodyPost_ret (results_ct rfl _ _ R 92 #[.pointer (some ⟨b, 0, none⟩), .pointer (some ⟨d, 0, none⟩), .int .i64 (hi : Int), .int .i64 (lo : Int)] (0, 0) _ rfl (quad_arr (quad_set (HRR.out _ (by assumption)) _ _ _ _)) Tryz.underlying92 rfl (by kernel_rfl)) rfl ?_
    exact ⟨rfl, ((((HB01.out.trans ((by assumption : Below W1.heap.size W1 _).mono HB01.out.size)).setCell (p := ⟨R, 0, none⟩) HRW.out _).setCell (p := ⟨R, 1, none⟩) HRW.out _).setCell (p := ⟨R, 2, none⟩) HRW.out _).setCell (p := ⟨R, 3, none⟩) HRW.out _⟩

end Go.Proofs.YtmmlphdekeflfaaGreatDoor

namespace Go.Proofs.YtmmlphdekeflfaaGreatDoor
open Go.RowKit

section
variable {P : Program} {ops : Array Oper} {Q : Exit → Act → World → Prop} {md : Region.Mode} {S : World → Prop}
theorem drop_atU {i : Nat} {oi : Oper} {rest : List Oper} (hl : ops.toList.drop i = oi :: rest) : ops[i]? = some oi := by
  have := congrArg (fun l => l[0]?) hl
  simpa [List.getElem?_drop] using this
theorem wpAnyH_takeU {i : Nat} {oi : Oper} {rest : List Oper} {v : Value} {fuel : Nat} {listed : Array Bool} {a : Act} {w : World} (hl : ops.toList.drop i = oi :: rest)
    (hs : Region.noSelect ops = true) (hf : Region.free md ops listed i = true) (hr : (Region.ready md ops listed).contains i = true)
    (hQ : ∀ c a w, Q (.panic c) (a.put oi.dst v) w → Q (.panic c) a w) (hw : Region.wanted oi (yielded ops a.tmps) = true) (hy : ∀ w, S w → (execOp a.eval oi).run P w = .ok (.value v) w) (hS : S w)
    (h : wpAnyH P md ops Q S fuel (listed.setIfInBounds i true) (a.put oi.dst v) w) : wpAnyH P md ops Q S (fuel + 1) listed a w :=
  wpAnyH_take (drop_atU hl) hs hf hr hQ (Or.inl ⟨hw, hy⟩) hS h
theorem AllReadyH.consU {fuel : Nat} {listed : Array Bool} {a : Act} {w : World} {i : Nat} {o : Oper} {rest : List Oper} {rs : List Nat} (hl : ops.toList.drop i = o :: rest)
    (h : ∀ K' : Act → World → Prop, Shut (∀ a w, S w → (S w → wpAnyH P md ops Q S fuel (listed.setIfInBounds i true) a w) → K' a w) → if Region.wanted o (yielded ops a.tmps) = true then Oper.wp P o a w K' Q else K' (a.put o.dst undef) w)
    (hs : AllReadyH P md ops Q S fuel listed a w rs) : AllReadyH P md ops Q S fuel listed a w (i :: rs) := AllReadyH.cons (drop_atU hl) h hs
end
theorem rg_appendU {o : Oper} {a : Act} {w w2 : World} {K : Act → World → Prop} {Q : Exit → Act → World → Prop} (s x : Operand) (tS tX : TypeId)
    (ho : o.op = .call { callee := .builtin .append, args := #[s, x], argTypes := #[tS, tX] }) (v u r : Value) (hs : a.eval s = v) (hx : a.eval x = u) (hrun : (Builtin.append_ #[tS, tX] o.type #[v, u]).run Tryz.prog w = .ok r w2)
    (h : K (a.put o.dst r) w2) : Oper.wp Tryz.prog o a w K Q := by
  unfold Oper.wp
  simp [execOp, ho, resolve, invoke, builtin, hs, hx, hrun, Result.andThen]
  exact h

end Go.Proofs.YtmmlphdekeflfaaGreatDoor

namespace Go.Proofs.YtmmlphdekeflfaaGreatDoor
open Go.RowKit

section
variable {P : Program} {ops : Array Oper} {Q : Exit → Act → World → Prop} {md : Region.Mode} {S : World → Prop}
theorem wpAnyH_skipV {i : Nat} {oi : Oper} {rest : List Oper} {fuel : Nat} {listed : Array Bool} {a : Act} {w : World} (hl : ops.toList.drop i = oi :: rest)
    (hs : Region.noSelect ops = true) (hf : Region.free md ops listed i = true) (hr : (Region.ready md ops listed).contains i = true)
    (hQ : ∀ c a w, Q (.panic c) (a.put oi.dst undef) w → Q (.panic c) a w) (hw : Region.wanted oi (yielded ops a.tmps) = false) (hS : S w)
    (h : wpAnyH P md ops Q S fuel (listed.setIfInBounds i true) (a.put oi.dst undef) w) : wpAnyH P md ops Q S (fuel + 1) listed a w :=
  wpAnyH_take (drop_atU hl) hs hf hr hQ (Or.inr ⟨hw, rfl⟩) hS h
end

end Go.Proofs.YtmmlphdekeflfaaGreatDoor
