/- Package gates: what stands beneath, by a side. Package gates: sideOf. Plain facts on Part: what the reference reckons, gate by gate, is ptz. -/
import Derived.Test.YtaapbopcfpihbaaDoorGpAP
import Derived.Test.YtaapbopcfpihbaaDoorGpAO
namespace Go.Proofs.YtaapbopcfpihbaaDoor
open Go.RowKit

set_option maxRecDepth 100000 in
set_option maxHeartbeats 1000000 in
theorem stands_any (x : Value) (g r c : Nat) (a : Option Addr) (t : List Int) (w : World) (hr : r ≤ 6) (ht : t.length = 2 ^ r) (lt : Lst w.heap.size w a c t) :
    Calls Tryd.prog 54 #[.agg #[x, .int .i64 (r : Int), .slice a t.length c], .int .i64 (g : Int)] w fun e w' => e = .returned (.int .i64 (zat t (g % 2 ^ r))) ∧ Below w.heap.size w w' := by
  obtain ⟨W0, hW0⟩ : ∃ W0, W0 = w.alloc (.cells #[x, .int .i64 (r : Int), .slice a t.length c] 85) := ⟨_, rfl⟩
  obtain ⟨hb0, hs0, hz0⟩ := own_blk hW0
  obtain ⟨j, hj⟩ : ∃ j, j = g % 2 ^ r := ⟨_, rfl⟩
  have hjl : j < t.length := by rw [hj, ht]; exact Nat.mod_lt _ (Nat.two_pow_pos r)
  have hand : bits BinOp.and IntKind.i64 (g : Int) (((2 ^ r : Nat) : Int) - 1) = (j : Int) := by
    rw [andn_i64 r (g : Int) (by omega) _ (by have := Nat.two_pow_pos r; omega), hj]
    simp
  obtain ⟨b0, o0, rfl, hb1, hx0⟩ := lt.row j hjl
  have hx1 := (hb0.cell (p := ⟨b0, o0 + j, none⟩) hb1).trans hx0
  have hp6 := pow_6 hr
  obtain ⟨G, hG⟩ : ∃ G, G = w.heap.size := ⟨_, rfl⟩
  rw [← hG] at hs0
  have c1 : W0.cell? ⟨G, 1, none⟩ = some (.int .i64 (r : Int)) := by simp [World.cell?, hs0]
  have c2 : W0.cell? ⟨G, 2, none⟩ = some (.slice (some ⟨b0, o0, none⟩) t.length c) := by simp [World.cell?, hs0]
  have HB0 := hid hb0
  have HWG := hid hW0
  have HG := hid hG
  have hjl2 : (j : Int) < (t.length : Int) := by omega
  rw [← hj]
  have hX1 : 1 ≤ 2 ^ r := Nat.two_pow_pos r
  have hsh2 : IntKind.i64.wrap (2 ^ r) = ((2 ^ r : Nat) : Int) := by
    have e : (2 : Int) ^ r = ((2 ^ r : Nat) : Int) := by simp
    rw [e, IntKind.wrap_i64]
    omega
  have hxs : IntKind.i64.wrap (((2 ^ r : Nat) : Int) - 1) = ((2 ^ r : Nat) : Int) - 1 := by rw [IntKind.wrap_i64]; omega
  generalize 2 ^ r = X at *
  generalize zat t j = E at *
  generalize t.length = N at *
  clear hj hjl lt hs0 hz0 hb0 hW0 hG hx0 ht
  go_enter Tryd.func54, Tryd.ntmps54
  go_wp2_with fail
  rw [← HWG.out, ← HG.out]
  clear HWG
  refine wp_region_held_drew (S := fun W => W.cell? ⟨G, 1, none⟩ = some (.int .i64 (r : Int)) ∧ W.cell? ⟨G, 2, none⟩ = some (.slice (some ⟨b0, o0, none⟩) N c) ∧ W.cell? ⟨b0, o0 + j, none⟩ = some (.int .i64 E)) (by kernel_rfl) (⟨c1, c2, hx1⟩) (fun hHeld => ?_)
  refine wpAnyH_takeU (i := 0) (v := .pointer (some ⟨G, 2, none⟩)) rfl (by kernel_rfl) (by kernel_rfl) (by kernel_rfl) (fun _ _ _ h => h) (by rfl) (fun W hC => by go_simp) hHeld ?_
  simp only [Act.put, List.setIfInBounds_toArray, List.set_cons_zero, List.set_cons_succ]
  refine wpAnyH_takeU (i := 1) (v := .slice (some ⟨b0, o0, none⟩) N c) rfl (by kernel_rfl) (by kernel_rfl) (by kernel_rfl) (fun _ _ _ h => h) (by rfl) (fun W hC => by (obtain ⟨x1, x2, x3⟩ := hC); go_simp) hHeld ?_
  simp only [Act.put, List.setIfInBounds_toArray, List.set_cons_zero, List.set_cons_succ]
  refine wpAnyH_takeU (i := 2) (v := .int .i64 (g : Int)) rfl (by kernel_rfl) (by kernel_rfl) (by kernel_rfl) (fun _ _ _ h => h) (by rfl) (fun W hC => by go_simp) hHeld ?_
  simp only [Act.put, List.setIfInBounds_toArray, List.set_cons_zero, List.set_cons_succ]
  refine wpAnyH_takeU (i := 3) (v := .pointer (some ⟨G, 1, none⟩)) rfl (by kernel_rfl) (by kernel_rfl) (by kernel_rfl) (fun _ _ _ h => h) (by rfl) (fun W hC => by go_simp) hHeld ?_
  simp only [Act.put, List.setIfInBounds_toArray, List.set_cons_zero, List.set_cons_succ]
  refine wpAnyH_takeU (i := 4) (v := .int .i64 (r : Int)) rfl (by kernel_rfl) (by kernel_rfl) (by kernel_rfl) (fun _ _ _ h => h) (by rfl) (fun W hC => by (obtain ⟨x1, x2, x3⟩ := hC); go_simp) hHeld ?_
  simp only [Act.put, List.setIfInBounds_toArray, List.set_cons_zero, List.set_cons_succ]
  refine wpAnyH_takeU (i := 5) (v := .int .i64 (X : Int)) rfl (by kernel_rfl) (by kernel_rfl) (by kernel_rfl) (fun _ _ _ h => h) (by rfl) (fun W hC => by go_simp) hHeld ?_
  simp only [Act.put, List.setIfInBounds_toArray, List.set_cons_zero, List.set_cons_succ]
  refine wpAnyH_takeU (i := 6) (v := .int .i64 ((X : Int) - 1)) rfl (by kernel_rfl) (by kernel_rfl) (by kernel_rfl) (fun _ _ _ h => h) (by rfl) (fun W hC => by go_simp) hHeld ?_
  simp only [Act.put, List.setIfInBounds_toArray, List.set_cons_zero, List.set_cons_succ]
  refine wpAnyH_takeU (i := 7) (v := .int .i64 (j : Int)) rfl (by kernel_rfl) (by kernel_rfl) (by kernel_rfl) (fun _ _ _ h => h) (by rfl) (fun W hC => by go_simp) hHeld ?_
  simp only [Act.put, List.setIfInBounds_toArray, List.set_cons_zero, List.set_cons_succ]
  refine wpAnyH_takeU (i := 8) (v := .pointer (some ⟨b0, o0 + j, none⟩)) rfl (by kernel_rfl) (by kernel_rfl) (by kernel_rfl) (fun _ _ _ h => h) (by rfl) (fun W hC => by go_simp) hHeld ?_
  simp only [Act.put, List.setIfInBounds_toArray, List.set_cons_zero, List.set_cons_succ]
  refine wpAnyH_takeU (i := 9) (v := .int .i64 E) rfl (by kernel_rfl) (by kernel_rfl) (by kernel_rfl) (fun _ _ _ h => h) (by rfl) (fun W hC => by (obtain ⟨x1, x2, x3⟩ := hC); go_simp) hHeld ?_
  simp only [Act.put, List.setIfInBounds_toArray, List.set_cons_zero, List.set_cons_succ]
  refine wpAnyH_ready (rs := [10]) (by kernel_rfl) (by simp) ?_
  refine AllReadyH.consU rfl (fun K' hK' => ?_) AllReadyH.nil
  go_simp
  refine hK'.out _ _ (hHeld) (fun hHeld => ?_)
  clear hK' K'
  refine wpAnyH_done (by kernel_rfl) ?_ _
  go_wp2_with fail
  go_ret
  exact ⟨rfl, HB0.out.drew⟩

end Go.Proofs.YtaapbopcfpihbaaDoor

namespace Go.Proofs.YtaapbopcfpihbaaDoor
open Go.RowKit

set_option maxRecDepth 100000 in
set_option maxHeartbeats 2000000 in
theorem sideOf_any (p b n c1 c2 : Nat) (y : Value) (a1 a2 : Option Addr) (t fs : List Int) (w : World) (hIT : InT p b w) (hn : n ≤ 6) (ht : t.length = 2 ^ n) (hk : fs.length ≤ n) (ft : Fits t) (ff : Fits fs) (lt : Lst w.heap.size w a1 c1 t) (lf : RowB w.heap.size w a2 fs) :
    Calls Tryd.prog 52 #[.agg #[.pointer (some ⟨b, 0, none⟩), y, .int .i64 (n : Int)], .slice a1 t.length c1, .slice a2 fs.length c2] w fun e w' => ∃ a' c', e = .returned (.agg #[.slice a2 fs.length c2, .int .i64 ((n - fs.length : Nat) : Int), .slice a' (fxs p t (zat fs) fs.length).length c']) ∧ Lst w'.heap.size w' a' c' (fxs p t (zat fs) fs.length) ∧ (a' = a1 ∨ ∃ g, a' = some ⟨g, 0, none⟩ ∧ w.heap.size ≤ g) ∧ Below w.heap.size w w' := by
  have hmx : Tryd.prog.follows .mixedOrders = true := by kernel_rfl
  obtain ⟨W0, hW0⟩ : ∃ W0, W0 = w.alloc (.cells #[.pointer (some ⟨b, 0, none⟩), y, .int .i64 (n : Int)] 64) := ⟨_, rfl⟩
  obtain ⟨hb0, hs0, hz0⟩ := own_blk hW0
  obtain ⟨W1, hW1⟩ : ∃ W1, W1 = W0.alloc (.cells #[.slice none 0 0, .int .i64 0, .slice none 0 0] 85) := ⟨_, rfl⟩
  obtain ⟨hb1, hs1, hz1⟩ := own_blk hW1
  obtain ⟨G, hG⟩ : ∃ G, G = w.heap.size := ⟨_, rfl⟩
  obtain ⟨R, hR⟩ : ∃ R, R = W0.heap.size := ⟨_, rfl⟩
  rw [← hG] at hs0
  rw [← hR] at hs1
  have hGR : R = w.heap.size + 1 := by omega
  have hs0' := (hb1.block G (by omega)).trans hs0
  have hB1 : Below w.heap.size w W1 := hb0.trans (hb1.mono hb0.size)
  have HB1 := hid hB1
  have HSB : Hid (∀ W, Below W1.heap.size W1 W → W.cell? ⟨G, 0, none⟩ = some (.pointer (some ⟨b, 0, none⟩)) ∧ W.cell? ⟨G, 2, none⟩ = some (.int .i64 (n : Int))) := fun W hW => by
    have e1 := (hW.block G (by omega)).trans hs0'
    exact ⟨by simp [World.cell?, e1], by simp [World.cell?, e1]⟩
  have HRB : Hid (∀ W, Below W1.heap.size W1 W → W.heap[R]? = some (.cells #[.slice none 0 0, .int .i64 0, .slice none 0 0] 85 (0, 0))) := fun W hW => (hW.block R (by omega)).trans hs1
  have HFX : Hid (∀ W, Below W1.heap.size W1 W → Calls Tryd.prog 69 #[.pointer (some ⟨b, 0, none⟩), .slice a1 t.length c1, .slice a2 fs.length c2] W fun e w' => ∃ a' c', e = .returned (.slice a' (fxs p t (zat fs) fs.length).length c') ∧ Lst w'.heap.size w' a' c' (fxs p t (zat fs) fs.length) ∧ (a' = a1 ∨ ∃ g, a' = some ⟨g, 0, none⟩ ∧ W.heap.size ≤ g) ∧ Below W.heap.size W w') := fun W hW => by
    have hw := hB1.trans (hW.mono hB1.size)
    exact gfixed_any p b n c1 c2 a1 a2 t fs W (hIT.below hw) hn ht hk ft ff ((lt.below hw).mono hw.size) ((lf.below hw).mono hw.size)
  have h0 : 0 < t.length := by rw [ht]; exact Nat.two_pow_pos n
  have HEN : Hid (∀ (W : World) (a' : Option Addr) (c' : Nat) (cs : Array Value), Below W1.heap.size W1 W → Lst W.heap.size W a' c' (fxs p t (zat fs) fs.length) → (a' = a1 ∨ ∃ g, a' = some ⟨g, 0, none⟩ ∧ W1.drew.heap.size ≤ g) → Lst (W.setRow R cs).heap.size (W.setRow R cs) a' c' (fxs p t (zat fs) fs.length) ∧ (a' = a1 ∨ ∃ g, a' = some ⟨g, 0, none⟩ ∧ w.heap.size ≤ g) ∧ Below w.heap.size w (W.setRow R cs)) := fun W a' c' cs hW hl hor => by
    have hbw : Below w.heap.size w W := hB1.trans (hW.mono hB1.size)
    have hbs := below_setRow hbw (show w.heap.size ≤ R by omega) cs
    refine ⟨⟨fun q hq => ?_, hl.room, hl.nil⟩, hor.imp id (fun ⟨g, h, hg⟩ => ⟨g, h, Nat.le_trans hB1.size hg⟩), hbs⟩
    obtain ⟨b', o', e1, e2, e4⟩ := hl.row q hq
    have hne : b' ≠ R := by
      rcases hor with h | ⟨g, h, hg⟩
      · obtain ⟨b2, o2, e5, e6, _⟩ := lt.row 0 h0
        rw [h, e5] at e1
        injection e1 with e1
        injection e1 with e7 _ _
        omega
      · rw [h] at e1
        injection e1 with e1
        injection e1 with e7 _ _
        have : W1.drew.heap.size = W1.heap.size := rfl
        omega
    refine ⟨b', o', e1, by simpa [World.setRow] using e2, ?_⟩
    exact (World.cell?_of_block (w := W) (a := ⟨b', o' + q, none⟩) (setRow_other W R b' cs hne)).trans e4
  have HSR : Hid (∀ (W : World) (cs : Array Value), (W.cell? ⟨G, 0, none⟩ = some (.pointer (some ⟨b, 0, none⟩)) ∧ W.cell? ⟨G, 2, none⟩ = some (.int .i64 (n : Int))) → (W.setRow R cs).cell? ⟨G, 0, none⟩ = some (.pointer (some ⟨b, 0, none⟩)) ∧ (W.setRow R cs).cell? ⟨G, 2, none⟩ = some (.int .i64 (n : Int))) := fun W cs h => by
    have e := setRow_other W R G cs (by omega)
    exact ⟨(World.cell?_of_block (w := W) (a := ⟨G, 0, none⟩) e).trans h.1, (World.cell?_of_block (w := W) (a := ⟨G, 2, none⟩) e).trans h.2⟩
  have HBD : Hid (Below W1.heap.size W1 W1.drew) := (Below.refl _ _).drew
  obtain ⟨m, hmm⟩ : ∃ m, m = n - fs.length := ⟨_, rfl⟩
  have hnk : (n : Int) - (fs.length : Int) = (m : Int) := by omega
  have hms : IntKind.i64.wrap (m : Int) = (m : Int) := by rw [IntKind.wrap_i64]; omega
  rw [← hmm]
  generalize fxs p t (zat fs) fs.length = Y at *
  generalize Y.length = M at *
  generalize t.length = N at *
  generalize fs.length = k at *
  have HWG : Hid (W1 = (w.alloc (.cells #[.pointer (some ⟨b, 0, none⟩), y, .int .i64 (n : Int)] 64)).alloc (.cells #[.slice none 0 0, .int .i64 0, .slice none 0 0] 85)) := by unfold Hid; rw [hW1, hW0]
  have HG := hid hG
  have HR := hid hGR
  clear hIT ht ft ff lt lf hb0 hb1 hs0 hs1 hz0 hz1 hW0 hW1 hG hR hGR hs0' hB1 hmm hk h0
  go_enter Tryd.func52, Tryd.ntmps52
  go_wp2_with fail
  rw [← HWG.out, ← HR.out, ← HG.out]
  clear HWG
  refine wp_region_held_drew (S := fun W => W.cell? ⟨G, 0, none⟩ = some (.pointer (some ⟨b, 0, none⟩)) ∧ W.cell? ⟨G, 2, none⟩ = some (.int .i64 (n : Int))) (by kernel_rfl) (HSB.out _ HBD.out) (fun hHeld => ?_)
  refine wpAnyH_takeU (i := 0) (v := .slice a2 k c2) rfl (by kernel_rfl) (by kernel_rfl) (by kernel_rfl) (fun _ _ _ h => h) (by rfl) (fun W hC => by go_simp) hHeld ?_
  simp only [Act.put, List.setIfInBounds_toArray, List.set_cons_zero, List.set_cons_succ]
  refine wpAnyH_takeU (i := 1) (v := .pointer (some ⟨G, 2, none⟩)) rfl (by kernel_rfl) (by kernel_rfl) (by kernel_rfl) (fun _ _ _ h => h) (by rfl) (fun W hC => by go_simp) hHeld ?_
  simp only [Act.put, List.setIfInBounds_toArray, List.set_cons_zero, List.set_cons_succ]
  refine wpAnyH_takeU (i := 2) (v := .int .i64 (n : Int)) rfl (by kernel_rfl) (by kernel_rfl) (by kernel_rfl) (fun _ _ _ h => h) (by rfl) (fun W hC => by (obtain ⟨x1, x2⟩ := hC); go_simp) hHeld ?_
  simp only [Act.put, List.setIfInBounds_toArray, List.set_cons_zero, List.set_cons_succ]
  refine wpAnyH_takeU (i := 3) (v := .slice a2 k c2) rfl (by kernel_rfl) (by kernel_rfl) (by kernel_rfl) (fun _ _ _ h => h) (by rfl) (fun W hC => by go_simp) hHeld ?_
  simp only [Act.put, List.setIfInBounds_toArray, List.set_cons_zero, List.set_cons_succ]
  refine wpAnyH_takeU (i := 4) (v := .int .i64 (k : Int)) rfl (by kernel_rfl) (by kernel_rfl) (by kernel_rfl) (fun _ _ _ h => h) (by rfl) (fun W hC => by go_simp) hHeld ?_
  simp only [Act.put, List.setIfInBounds_toArray, List.set_cons_zero, List.set_cons_succ]
  refine wpAnyH_takeU (i := 5) (v := .int .i64 (m : Int)) rfl (by kernel_rfl) (by kernel_rfl) (by kernel_rfl) (fun _ _ _ h => h) (by rfl) (fun W hC => by go_simp) hHeld ?_
  simp only [Act.put, List.setIfInBounds_toArray, List.set_cons_zero, List.set_cons_succ]
  refine wpAnyH_takeU (i := 6) (v := .pointer (some ⟨G, 0, none⟩)) rfl (by kernel_rfl) (by kernel_rfl) (by kernel_rfl) (fun _ _ _ h => h) (by rfl) (fun W hC => by go_simp) hHeld ?_
  simp only [Act.put, List.setIfInBounds_toArray, List.set_cons_zero, List.set_cons_succ]
  refine wpAnyH_takeU (i := 7) (v := .pointer (some ⟨b, 0, none⟩)) rfl (by kernel_rfl) (by kernel_rfl) (by kernel_rfl) (fun _ _ _ h => h) (by rfl) (fun W hC => by (obtain ⟨x1, x2⟩ := hC); go_simp) hHeld ?_
  simp only [Act.put, List.setIfInBounds_toArray, List.set_cons_zero, List.set_cons_succ]
  refine wpAnyH_takeU (i := 8) (v := .slice a1 N c1) rfl (by kernel_rfl) (by kernel_rfl) (by kernel_rfl) (fun _ _ _ h => h) (by rfl) (fun W hC => by go_simp) hHeld ?_
  simp only [Act.put, List.setIfInBounds_toArray, List.set_cons_zero, List.set_cons_succ]
  refine wpAnyH_takeU (i := 9) (v := .slice a2 k c2) rfl (by kernel_rfl) (by kernel_rfl) (by kernel_rfl) (fun _ _ _ h => h) (by rfl) (fun W hC => by go_simp) hHeld ?_
  simp only [Act.put, List.setIfInBounds_toArray, List.set_cons_zero, List.set_cons_succ]
  refine wpAnyH_ready (rs := [10]) (by kernel_rfl) (by simp) ?_
  refine AllReadyH.consU rfl (fun K' hK' => ?_) AllReadyH.nil
  go_simp
  refine (HFX.out _ HBD.out).mono ?_
  rintro e w3 ⟨a', c', rfl, hl3, ho3, hb3⟩
  have hB3 := HBD.out.trans hb3
  have hS3 := HSB.out w3 hB3
  have HRR := hid (HRB.out w3 hB3)
  have HE3 := hid (fun cs => HEN.out w3 a' c' cs hB3 hl3 ho3)
  have HS4 := hid (fun cs => HSR.out w3 cs hS3)
  clear hl3 hb3 ho3
  refine hK'.out _ _ (hS3) (fun hHeld => ?_)
  clear hK' K'
  refine wpAnyH_takeU (i := 11) (v := .agg #[.slice a2 k c2, .int .i64 (m : Int), .slice a' M c']) rfl (by kernel_rfl) (by kernel_rfl) (by kernel_rfl) (fun _ _ _ h => h) (by rfl) (fun W hC => by go_simp) hHeld ?_
  simp only [Act.put, List.setIfInBounds_toArray, List.set_cons_zero, List.set_cons_succ]
  refine wpAnyH_ready (rs := [12]) (by kernel_rfl) (by simp) ?_
  refine AllReadyH.consU rfl (fun K' hK' => ?_) AllReadyH.nil
  rw [if_pos (by rfl)]
  refine wp_store_row 85 _ _ rfl R #[.slice a2 k c2, .int .i64 (m : Int), .slice a' M c'] rfl rfl _ _ HRR.out (by kernel_rfl) rfl (by simp [Value.oneCell']) ?_
  refine hK'.out _ _ (HS4.out _) (fun hHeld => ?_)
  clear hK' K'
  refine wpAnyH_done (by kernel_rfl) ?_ _
  go_wp2_with fail
  refine bodyPost_ret (results_cell_row rfl _ _ R 85 #[.slice a2 k c2, .int .i64 (m : Int), .slice a' M c'] (0, 0) _ rfl (setRow_heap _ _ _ _ _ _ HRR.out) Tryd.underlying85 rfl (by kernel_rfl)) rfl ?_
  exact ⟨a', c', rfl, HE3.out _⟩

end Go.Proofs.YtaapbopcfpihbaaDoor

namespace Go.Proofs.YtaapbopcfpihbaaDoor
open Go.RowKit

theorem prz_split (f : Nat → Int) (a b : Nat) : Sum.prz f (a + b) = Sum.prz f a * Sum.prz (fun j => f (a + j)) b := by
  induction b with
  | zero => simp [Sum.prz]
  | succ b ih => rw [← Nat.add_assoc, Sum.prz, Sum.prz, ih, Int.mul_assoc]
theorem jnz_congr {p : Nat} {kind x y x' y' : Int} (hx : (p : Int) ∣ x - x') (hy : (p : Int) ∣ y - y') : jnz p kind x y = jnz p kind x' y' := by
  unfold jnz
  split
  · exact emod_of_dvd (Sum.dvd_add_sub hx hy)
  · exact emod_of_dvd (Sum.dvd_mul_sub hx hy)
/-- two numbers' bits, one behind the other -/
def abz (n A B k : Nat) : Int := if k < n then bitz n A k else bitz n B (k - n)
/-- a variable's factor -/
def gfac (n A B : Nat) (xs : List Int) (k : Nat) : Int := if abz n A B k = 0 then 1 - zat xs k else zat xs k
theorem prz_gfac {n A B : Nat} {xs : List Int} (h : xs.length ≤ 2 * n) : Sum.prz (gfac n A B xs) xs.length = Sum.wgt (zat xs) (min xs.length n) (A / 2 ^ (n - min xs.length n)) * Sum.wgt (fun j => zat xs (min xs.length n + j)) (xs.length - min xs.length n) (B / 2 ^ (n - (xs.length - min xs.length n))) := by
  obtain ⟨m, hm⟩ : ∃ m, m = min xs.length n := ⟨_, rfl⟩
  rw [← hm]
  have e : xs.length = m + (xs.length - m) := by omega
  rw [wgt_cut _ (show m ≤ n by omega), wgt_cut _ (show xs.length - m ≤ n by omega)]
  conv => lhs; rw [e]
  rw [prz_split]
  congr 1
  · refine Sum.prz_same (fun k hk => ?_)
    unfold gfac abz
    rw [if_pos (show k < n by omega)]
  · refine Sum.prz_same (fun k hk => ?_)
    have hmn : m = n := by omega
    unfold gfac abz
    rw [if_neg (show ¬ m + k < n by omega), show m + k - n = k from by omega]
/-- the points that a gate's sum is looked at: elements, then bits -/
def xpt (n A B : Nat) (xs : List Int) (k : Nat) : Int := if k < xs.length then zat xs k else abz n A B k
theorem x_dvd {p n A B : Nat} {t xs : List Int} (ht : t.length = 2 ^ n) : (p : Int) ∣ Sum.ext (zat t) (xpt n A B xs) n % (p : Int) - zat (fxs p t (zat xs) (min xs.length n)) (A % 2 ^ (n - min xs.length n)) := by
  have h := cut_fxs (p := p) (n := n) (k := min xs.length n) (A := A) (t := t) (fs := zat xs) (at' := xpt n A B xs) ht (by omega) (fun j hj => by unfold xpt; rw [if_pos (by omega)]) (fun j h1 h2 => by unfold xpt abz; rw [if_neg (by omega), if_pos h2])
  have h2 := Int.dvd_add (Pol.emod_dvd p (Sum.ext (zat t) (xpt n A B xs) n)) h
  generalize Sum.ext (zat t) (xpt n A B xs) n % (p : Int) = a at *
  generalize Sum.ext (zat t) (xpt n A B xs) n = b at *
  generalize zat (fxs p t (zat xs) (min xs.length n)) (A % 2 ^ (n - min xs.length n)) = c at *
  rwa [show a - b + (b - c) = a - c from by omega] at h2
theorem y_dvd {p n A B : Nat} {t xs : List Int} (ht : t.length = 2 ^ n) (hl : xs.length ≤ 2 * n) : (p : Int) ∣ Sum.ext (zat t) (fun j => xpt n A B xs (n + j)) n % (p : Int) - zat (fxs p t (fun j => zat xs (min xs.length n + j)) (xs.length - min xs.length n)) (B % 2 ^ (n - (xs.length - min xs.length n))) := by
  have h := cut_fxs (p := p) (n := n) (k := xs.length - min xs.length n) (A := B) (t := t) (fs := fun j => zat xs (min xs.length n + j)) (at' := fun j => xpt n A B xs (n + j)) ht (by omega) (fun j hj => by
    have e : min xs.length n = n := by omega
    show xpt n A B xs (n + j) = _
    unfold xpt
    rw [if_pos (by omega), e]) (fun j h1 h2 => by
    show xpt n A B xs (n + j) = _
    unfold xpt abz
    rw [if_neg (by omega), if_neg (by omega), Nat.add_sub_cancel_left])
  have h2 := Int.dvd_add (Pol.emod_dvd p (Sum.ext (zat t) (fun j => xpt n A B xs (n + j)) n)) h
  generalize Sum.ext (zat t) (fun j => xpt n A B xs (n + j)) n % (p : Int) = a at *
  generalize Sum.ext (zat t) (fun j => xpt n A B xs (n + j)) n = b at *
  generalize zat (fxs p t (fun j => zat xs (min xs.length n + j)) (xs.length - min xs.length n)) (B % 2 ^ (n - (xs.length - min xs.length n))) = c at *
  rwa [show a - b + (b - c) = a - c from by omega] at h2
/-- a gate's part, as the reference reckons it -/
theorem ptt_ref {p n i : Nat} {gs : List GatZ} {below z xs : List Int} {M : Int} (ht : below.length = 2 ^ n) (hl : xs.length ≤ 2 * n) (hM : (p : Int) ∣ M - Sum.wgt (zat z) z.length i * Sum.prz (gfac n (gat gs i).a.toNat (gat gs i).b.toNat xs) xs.length) :
    (Dom.sm (ptt p gs below n z xs) i % (p : Int) + M * jnz p (gat gs i).kind (Sum.ext (zat below) (xpt n (gat gs i).a.toNat (gat gs i).b.toNat xs) n % (p : Int)) (Sum.ext (zat below) (fun j => xpt n (gat gs i).a.toNat (gat gs i).b.toNat xs (n + j)) n % (p : Int)) % (p : Int)) % (p : Int) = Dom.sm (ptt p gs below n z xs) (i + 1) % (p : Int) := by
  rw [jnz_congr (x_dvd (A := (gat gs i).a.toNat) (B := (gat gs i).b.toNat) (xs := xs) ht) (y_dvd (A := (gat gs i).a.toNat) (B := (gat gs i).b.toNat) (xs := xs) ht hl)]
  refine emod_of_dvd ?_
  rw [Dom.sm]
  refine Sum.dvd_add_sub (Pol.emod_dvd p _) ?_
  unfold ptt
  rw [prz_gfac hl, ← Int.mul_assoc] at hM
  have h1 := Sum.dvd_mul_sub hM (show (p : Int) ∣ jnz p (gat gs i).kind (zat (fxs p below (zat xs) (min xs.length n)) ((gat gs i).a.toNat % 2 ^ (n - min xs.length n))) (zat (fxs p below (fun j => zat xs (min xs.length n + j)) (xs.length - min xs.length n)) ((gat gs i).b.toNat % 2 ^ (n - (xs.length - min xs.length n)))) - jnz p (gat gs i).kind (zat (fxs p below (zat xs) (min xs.length n)) ((gat gs i).a.toNat % 2 ^ (n - min xs.length n))) (zat (fxs p below (fun j => zat xs (min xs.length n + j)) (xs.length - min xs.length n)) ((gat gs i).b.toNat % 2 ^ (n - (xs.length - min xs.length n)))) from by rw [Int.sub_self]; exact Int.dvd_zero _)
  generalize jnz p (gat gs i).kind (zat (fxs p below (zat xs) (min xs.length n)) ((gat gs i).a.toNat % 2 ^ (n - min xs.length n))) (zat (fxs p below (fun j => zat xs (min xs.length n + j)) (xs.length - min xs.length n)) ((gat gs i).b.toNat % 2 ^ (n - (xs.length - min xs.length n)))) = J at *
  have h2 := Int.dvd_add (Pol.emod_dvd p (M * J)) h1
  generalize M * J % (p : Int) = a at *
  generalize M * J = b at *
  rwa [show ∀ c : Int, a - b + (b - c) = a - c from fun c => by omega] at h2

end Go.Proofs.YtaapbopcfpihbaaDoor
