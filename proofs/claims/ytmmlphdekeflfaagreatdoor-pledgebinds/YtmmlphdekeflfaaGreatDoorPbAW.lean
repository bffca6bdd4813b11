/- Package tree: a walk's pairList. slices.Equal; package tree: rowList. -/
import Derived.Test.YtmmlphdekeflfaaGreatDoorPbAM
namespace Go.Proofs.YtmmlphdekeflfaaGreatDoor
open Go.RowKit

noncomputable def pairCode : Code := (Tryz.f144.body).getD .ret
def PairR (D1 D2 : List Int) (w : World) (e : Ending) (w' : World) : Prop := ∃ v, e = .returned v ∧ w'.ownsRow w.heap.size 3 1 v (1 :: (D1 ++ D2)).length ((1 :: (D1 ++ D2)).map (Value.int .i64)) ∧ Below w.heap.size w w'

set_option maxRecDepth 100000 in
set_option maxHeartbeats 2000000 in
theorem pair2 {u0 u1 u2 u3 u4 u5 u6 u9 u10 u11 u12 u13 u14 u15 u16 u17 u18 u19 u20 u21 u22 u23 u24 : Value} (A A' : Nat) (D1 D2 : List Int) (w V : World) (l1 : D1.length = 4) (l2 : D2.length = 4) (hb : Below w.heap.size w V) (h1 : ArrI V A 176 4 (zat D1)) (h2 : ArrI V A' 176 4 (zat D2)) :
    (sq (sq pairCode)).wp Tryz.prog (bodyPost Tryz.prog Tryz.f144 (PairR D1 D2 w)) { tmps := #[u0, u1, u2, u3, u4, u5, u6, .pointer (some ⟨A, 0, none⟩), .pointer (some ⟨A', 0, none⟩), u9, u10, u11, u12, u13, u14, u15, u16, u17, u18, u19, u20, u21, u22, u23, u24], defers := [] } V := by
  have HBc : Hid (Below V.heap.size V (V.alloc (.cells #[.slice (some ⟨A, 0, none⟩) 4 4, .slice (some ⟨A', 0, none⟩) 4 4] 23)).drew) := ((Below.refl _ _).alloc (Nat.le_refl _) _).drew
  have HPc : Hid ((V.alloc (.cells #[.slice (some ⟨A, 0, none⟩) 4 4, .slice (some ⟨A', 0, none⟩) 4 4] 23)).drew.heap[V.heap.size]? = some (.cells #[.slice (some ⟨A, 0, none⟩) 4 4, .slice (some ⟨A', 0, none⟩) 4 4] 23)) := heap_alloc_new V (.cells #[.slice (some ⟨A, 0, none⟩) 4 4, .slice (some ⟨A', 0, none⟩) 4 4] 23)
  have HJ : Hid (Calls Tryz.prog 142 #[.int .i64 1, .slice (some ⟨V.heap.size, 0, none⟩) 2 2] (V.alloc (.cells #[.slice (some ⟨A, 0, none⟩) 4 4, .slice (some ⟨A', 0, none⟩) 4 4] 23)).drew (PairR D1 D2 w)) := by
    have hfl : [D1, D2].flatten = D1 ++ D2 := by simp
    have hr : LstR (V.alloc (.cells #[.slice (some ⟨A, 0, none⟩) 4 4, .slice (some ⟨A', 0, none⟩) 4 4] 23)).drew.heap.size (V.alloc (.cells #[.slice (some ⟨A, 0, none⟩) 4 4, .slice (some ⟨A', 0, none⟩) 4 4] 23)).drew (some ⟨V.heap.size, 0, none⟩) 2 [D1, D2] := lstR_two HPc.out ((h1.below HBc.out h1.lt).lst l1) ((h2.below HBc.out h2.lt).lst l2) l1 l2
    refine (joined_any 1 2 (some ⟨V.heap.size, 0, none⟩) [D1, D2] (V.alloc (.cells #[.slice (some ⟨A, 0, none⟩) 4 4, .slice (some ⟨A', 0, none⟩) 4 4] 23)).drew (by rw [hfl, List.length_append]; omega) (by simp) hr).mono ?_
    rintro e w' ⟨v, rfl, ho, hb'⟩
    rw [hfl] at ho
    have hs := HBc.out.size
    have hs2 := hb.size
    exact ⟨v, rfl, World.ownsRow.mono ho (by omega), (hb.trans (HBc.out.mono hs2)).trans (hb'.mono (by omega))⟩
  clear h1 h2 l1 l2 hb HBc HPc
  refine wp_of_eq (c := .seq (.region 2 _ true) _) rfl ?_
  have HPR : Hid (∀ e w', PairR D1 D2 w e w' → ∃ v, e = .returned v ∧ PairR D1 D2 w (.returned v) w') := fun e w' h => by
    obtain ⟨v, rfl, h2⟩ := h
    exact ⟨v, rfl, v, rfl, h2⟩
  generalize PairR D1 D2 w = RR at *
  go_wp2_with fail
  go_region_held3 (fun _ => True) (trivial)
    (first
      | (go_at_call 142; refine HJ.out.mono ?_; intro e w' hRR; obtain ⟨v, rfl, hV⟩ := HPR.out e w' hRR))
  go_wp2_with fail
  exact hV

set_option maxRecDepth 100000 in
set_option maxHeartbeats 4000000 in
theorem pairlist_any (s g B x m y : Nat) (D1 D2 : List Int) (M : Nat → Nat → Option (List Int)) (w : World) (hw : WlkAt w g B s) (hM : MapIs w B M) (h1 : M x m = some D1) (h2 : M m y = some D2) (l1 : D1.length = 4) (l2 : D2.length = 4) (hx : x ≤ 1000000) (hm : m ≤ 1000000) (hy : y ≤ 1000000) :
    Calls Tryz.prog 144 #[.pointer (some ⟨g, 0, none⟩), gk x m, gk m y] w (PairR D1 D2 w) := by
  unfold gk
  have hmx : Tryz.prog.follows .mixedOrders = true := by kernel_rfl
  have hgl := hw.lt
  have hBl := hM.lt
  have HLc := hid ((duo_new w 135 (.int .i64 (x : Int)) (.int .i64 (m : Int))).alloc (.cells #[.int .i64 (m : Int), .int .i64 (y : Int)] 135))
  have HRc : Hid (((w.alloc (.cells #[.int .i64 (x : Int), .int .i64 (m : Int)] 135)).alloc (.cells #[.int .i64 (m : Int), .int .i64 (y : Int)] 135)).rowIs (w.heap.size + 1) 135 2 (duo (.int .i64 (m : Int)) (.int .i64 (y : Int)))) := by
    have := duo_new (w.alloc (.cells #[.int .i64 (x : Int), .int .i64 (m : Int)] 135)) 135 (.int .i64 (m : Int)) (.int .i64 (y : Int))
    rwa [show (w.alloc (.cells #[.int .i64 (x : Int), .int .i64 (m : Int)] 135)).heap.size = w.heap.size + 1 from by simp] at this
  have HB1 : Hid (Below w.heap.size w ((w.alloc (.cells #[.int .i64 (x : Int), .int .i64 (m : Int)] 135)).alloc (.cells #[.int .i64 (m : Int), .int .i64 (y : Int)] 135))) := ((Below.refl _ _).alloc (Nat.le_refl _) _).alloc (by simp) _
  have hs1 : ((w.alloc (.cells #[.int .i64 (x : Int), .int .i64 (m : Int)] 135)).alloc (.cells #[.int .i64 (m : Int), .int .i64 (y : Int)] 135)).heap.size = w.heap.size + 2 := by simp
  have HMM := hid hM
  have HWW := hid hw
  have HFin : Hid (∀ (A A' : Nat) (V : World), Below w.heap.size w V → ArrI V A 176 4 (zat D1) → ArrI V A' 176 4 (zat D2) → ∀ u0 u1 u2 u3 u4 u5 u6 u9 u10 u11 u12 u13 u14 u15 u16 u17 u18 u19 u20 u21 u22 u23 u24 : Value, (sq (sq pairCode)).wp Tryz.prog (bodyPost Tryz.prog Tryz.f144 (PairR D1 D2 w)) { tmps := #[u0, u1, u2, u3, u4, u5, u6, .pointer (some ⟨A, 0, none⟩), .pointer (some ⟨A', 0, none⟩), u9, u10, u11, u12, u13, u14, u15, u16, u17, u18, u19, u20, u21, u22, u23, u24], defers := [] } V) := fun A A' V hb a1 a2 _ _ _ _ _ _ _ _ _ _ _ _ _ _ _ _ _ _ _ _ _ _ _ => pair2 A A' D1 D2 w V l1 l2 hb a1 a2
  clear hw hM
  go_enter Tryz.func144, Tryz.ntmps144
  go_wp2_with fail
  rename_i K hKK
  generalize (w.alloc (.cells #[.int .i64 (x : Int), .int .i64 (m : Int)] 135)).alloc (.cells #[.int .i64 (m : Int), .int .i64 (y : Int)] 135) = W1 at *
  have HKe : Hid (∀ W, Below W1.heap.size W1 W → W.cell? ⟨g, 1, none⟩ = some (.map (some B)) ∧ W.cell? ⟨w.heap.size, 0, none⟩ = some (.int .i64 (x : Int)) ∧ W.cell? ⟨w.heap.size, 1, none⟩ = some (.int .i64 (m : Int)) ∧ (W.cell? ⟨w.heap.size + 1, 0, none⟩ = some (.int .i64 (m : Int)) ∧ W.cell? ⟨w.heap.size + 1, 1, none⟩ = some (.int .i64 (y : Int))) ∧ W.heap[B]? = W1.heap[B]?) := fun W h =>
    ⟨(h.cell (p := ⟨g, 1, none⟩) (by show g < _; omega)).trans ((HB1.out.cell (p := ⟨g, 1, none⟩) hgl).trans HWW.out.c1), (h.cell (p := ⟨w.heap.size, 0, none⟩) (by show w.heap.size < _; omega)).trans (HLc.out.cell (i := 0) (by omega)), (h.cell (p := ⟨w.heap.size, 1, none⟩) (by show w.heap.size < _; omega)).trans (HLc.out.cell (i := 1) (by omega)),
      ⟨(h.cell (p := ⟨w.heap.size + 1, 0, none⟩) (by show w.heap.size + 1 < _; omega)).trans (HRc.out.cell (i := 0) (by omega)), (h.cell (p := ⟨w.heap.size + 1, 1, none⟩) (by show w.heap.size + 1 < _; omega)).trans (HRc.out.cell (i := 1) (by omega))⟩, h.block B (by omega)⟩
  have hM1 : MapIs W1 B M := HMM.out.below HB1.out hBl
  have hLk1 : ∀ W : World, W.heap[B]? = W1.heap[B]? → (Instr.lookup 178 (.map (some B)) (.agg #[.int .i64 (x : Int), .int .i64 (m : Int)]) false).run Tryz.prog W = .ok (.agg #[.int .i64 (zat D1 0), .int .i64 (zat D1 1), .int .i64 (zat D1 2), .int .i64 (zat D1 3)]) W := fun W h => by
    have := (hM1.block h).lookup (a := x) (b := m) (by omega) (by omega) false
    rw [show gotv M x m = zat D1 from by unfold gotv; rw [h1], an4] at this
    exact this
  have hLk2 : ∀ W : World, W.heap[B]? = W1.heap[B]? → (Instr.lookup 178 (.map (some B)) (.agg #[.int .i64 (m : Int), .int .i64 (y : Int)]) false).run Tryz.prog W = .ok (.agg #[.int .i64 (zat D2 0), .int .i64 (zat D2 1), .int .i64 (zat D2 2), .int .i64 (zat D2 3)]) W := fun W h => by
    have := (hM1.block h).lookup (a := m) (b := y) (by omega) (by omega) false
    rw [show gotv M m y = zat D2 from by unfold gotv; rw [h2], an4] at this
    exact this
  have hC0 := HKe.out W1.drew (Below.refl _ _).drew
  have HS1 := hid hs1
  clear hM1 h1 h2 l1 l2 HMM HWW HLc HRc hs1
  refine wp_region_S (C := fun W => W.cell? ⟨g, 1, none⟩ = some (.map (some B)) ∧ W.cell? ⟨w.heap.size, 0, none⟩ = some (.int .i64 (x : Int)) ∧ W.cell? ⟨w.heap.size, 1, none⟩ = some (.int .i64 (m : Int)) ∧ (W.cell? ⟨w.heap.size + 1, 0, none⟩ = some (.int .i64 (m : Int)) ∧ W.cell? ⟨w.heap.size + 1, 1, none⟩ = some (.int .i64 (y : Int))) ∧ W.heap[B]? = W1.heap[B]?) (st := [14, 15]) hmx ?_
  show wpAnyS _ _ _ _ _ _ 16 (Array.replicate 16 false) _ _
  refine wpAnyS_pure (i := 0) (v := (.pointer (some ⟨g, 0, none⟩))) rfl (by kernel_rfl) (by kernel_rfl) (by kernel_rfl) (by kernel_rfl) (fun _ _ _ h => h) (Or.inl ⟨by rfl, fun W _ => ?_⟩) (fun _ => hC0) ?_
  · go_simp
  refine wpAnyS_pure (i := 1) (v := (.pointer (some ⟨g, 0, none⟩))) rfl (by kernel_rfl) (by kernel_rfl) (by kernel_rfl) (by kernel_rfl) (fun _ _ _ h => h) (Or.inl ⟨by rfl, fun W _ => ?_⟩) (fun _ => hC0) ?_
  · go_simp
  refine wpAnyS_pure (i := 2) (v := (.pointer (some ⟨g, 1, none⟩))) rfl (by kernel_rfl) (by kernel_rfl) (by kernel_rfl) (by kernel_rfl) (fun _ _ _ h => h) (Or.inl ⟨by rfl, fun W _ => ?_⟩) (fun _ => hC0) ?_
  · go_simp
  refine wpAnyS_take (i := 3) (v := (.map (some B))) rfl (by kernel_rfl) (by kernel_rfl) (by kernel_rfl) (by kernel_rfl) (by kernel_rfl) (by kernel_rfl) (fun _ _ _ h => h) (Or.inl ⟨by rfl, fun W hC => ?_⟩) hC0 ?_
  · obtain ⟨g0, g1, g2, ⟨g3, g5⟩, g4⟩ := hC
    go_simp
  refine wpAnyS_take (i := 4) (v := (.agg #[.int .i64 (x : Int), .int .i64 (m : Int)])) rfl (by kernel_rfl) (by kernel_rfl) (by kernel_rfl) (by kernel_rfl) (by kernel_rfl) (by kernel_rfl) (fun _ _ _ h => h) (Or.inl ⟨by rfl, fun W hC => ?_⟩) hC0 ?_
  · obtain ⟨g0, g1, g2, ⟨g3, g5⟩, g4⟩ := hC
    go_simp
  refine wpAnyS_take (i := 5) (v := (.agg #[.int .i64 (zat D1 0), .int .i64 (zat D1 1), .int .i64 (zat D1 2), .int .i64 (zat D1 3)])) rfl (by kernel_rfl) (by kernel_rfl) (by kernel_rfl) (by kernel_rfl) (by kernel_rfl) (by kernel_rfl) (fun _ _ _ h => h) (Or.inl ⟨by rfl, fun W hC => ?_⟩) hC0 ?_
  · obtain ⟨g0, g1, g2, ⟨g3, g5⟩, g4⟩ := hC
    go_simp
  refine wpAnyS_pure (i := 6) (v := (.pointer (some ⟨g, 0, none⟩))) rfl (by kernel_rfl) (by kernel_rfl) (by kernel_rfl) (by kernel_rfl) (fun _ _ _ h => h) (Or.inl ⟨by rfl, fun W _ => ?_⟩) (fun _ => hC0) ?_
  · go_simp
  refine wpAnyS_pure (i := 7) (v := (.pointer (some ⟨g, 0, none⟩))) rfl (by kernel_rfl) (by kernel_rfl) (by kernel_rfl) (by kernel_rfl) (fun _ _ _ h => h) (Or.inl ⟨by rfl, fun W _ => ?_⟩) (fun _ => hC0) ?_
  · go_simp
  refine wpAnyS_pure (i := 8) (v := (.pointer (some ⟨g, 1, none⟩))) rfl (by kernel_rfl) (by kernel_rfl) (by kernel_rfl) (by kernel_rfl) (fun _ _ _ h => h) (Or.inl ⟨by rfl, fun W _ => ?_⟩) (fun _ => hC0) ?_
  · go_simp
  refine wpAnyS_take (i := 9) (v := (.map (some B))) rfl (by kernel_rfl) (by kernel_rfl) (by kernel_rfl) (by kernel_rfl) (by kernel_rfl) (by kernel_rfl) (fun _ _ _ h => h) (Or.inl ⟨by rfl, fun W hC => ?_⟩) hC0 ?_
  · obtain ⟨g0, g1, g2, ⟨g3, g5⟩, g4⟩ := hC
    go_simp
  refine wpAnyS_take (i := 10) (v := (.agg #[.int .i64 (m : Int), .int .i64 (y : Int)])) rfl (by kernel_rfl) (by kernel_rfl) (by kernel_rfl) (by kernel_rfl) (by kernel_rfl) (by kernel_rfl) (fun _ _ _ h => h) (Or.inl ⟨by rfl, fun W hC => ?_⟩) hC0 ?_
  · obtain ⟨g0, g1, g2, ⟨g3, g5⟩, g4⟩ := hC
    go_simp
  refine wpAnyS_take (i := 11) (v := (.agg #[.int .i64 (zat D2 0), .int .i64 (zat D2 1), .int .i64 (zat D2 2), .int .i64 (zat D2 3)])) rfl (by kernel_rfl) (by kernel_rfl) (by kernel_rfl) (by kernel_rfl) (by kernel_rfl) (by kernel_rfl) (fun _ _ _ h => h) (Or.inl ⟨by rfl, fun W hC => ?_⟩) hC0 ?_
  · obtain ⟨g0, g1, g2, ⟨g3, g5⟩, g4⟩ := hC
    go_simp
  refine wpAnyS_two (i := 12) (j := 13) (by kernel_rfl) ?_ ?_
  · skip
    refine wpOp_step rfl (fun K' hK' => ?_)
    rw [if_pos (by rfl)]
    go_simp
    refine hK' _ _ ⟨fun _ => HKe.out _ (((Below.refl _ _).alloc (Nat.le_refl _) _).drew), ?_⟩
    clear hK' K'
    refine wpAnyS_one (i := 13) (by kernel_rfl) ?_
    refine wpOp_step rfl (fun K' hK' => ?_)
    rw [if_pos (by rfl)]
    go_simp
    refine hK' _ _ ⟨fun _ => HKe.out _ ((((Below.refl _ _).alloc (Nat.le_refl _) _).alloc (by simp) _).drew), ?_⟩
    clear hK' K'
    have HXa : Hid (ArrI ((W1.alloc (.cells #[.int .i64 0, .int .i64 0, .int .i64 0, .int .i64 0] 176)).alloc (.cells #[.int .i64 0, .int .i64 0, .int .i64 0, .int .i64 0] 176)).drew W1.heap.size 176 4 (fun _ => 0)) := ((ArrI.new W1 4 176 (fun _ => 0)).alloc (.cells #[.int .i64 0, .int .i64 0, .int .i64 0, .int .i64 0] 176)).drew
    have HXb : Hid (ArrI ((W1.alloc (.cells #[.int .i64 0, .int .i64 0, .int .i64 0, .int .i64 0] 176)).alloc (.cells #[.int .i64 0, .int .i64 0, .int .i64 0, .int .i64 0] 176)).drew (W1.heap.size + 1) 176 4 (fun _ => 0)) := (ArrI.new2 W1 (.cells #[.int .i64 0, .int .i64 0, .int .i64 0, .int .i64 0] 176) 4 176 (fun _ => 0)).drew
    have HBV : Hid (Below w.heap.size w ((W1.alloc (.cells #[.int .i64 0, .int .i64 0, .int .i64 0, .int .i64 0] 176)).alloc (.cells #[.int .i64 0, .int .i64 0, .int .i64 0, .int .i64 0] 176)).drew) := ((HB1.out.alloc HB1.out.size _).alloc (by have := HB1.out.size; simp; omega) _).drew
    have hn1 : w.heap.size ≤ W1.heap.size := HB1.out.size
    generalize ((W1.alloc (.cells #[.int .i64 0, .int .i64 0, .int .i64 0, .int .i64 0] 176)).alloc (.cells #[.int .i64 0, .int .i64 0, .int .i64 0, .int .i64 0] 176)).drew = V at *
    clear HKe hLk1 hLk2 hC0
    have az0 := HXa.out.cell (i := 0) (by decide)
    have ay0 := HXa.out.frozen 0
    have az1 := HXa.out.cell (i := 1) (by decide)
    have ay1 := HXa.out.frozen 1
    have az2 := HXa.out.cell (i := 2) (by decide)
    have ay2 := HXa.out.frozen 2
    have az3 := HXa.out.cell (i := 3) (by decide)
    have ay3 := HXa.out.frozen 3
    refine wpAnyS_one (i := 14) (by kernel_rfl) ?_
    refine wpOp_step rfl (fun K' hK' => ?_)
    rw [if_pos (by rfl)]
    go_simp
    refine hK' _ _ ⟨fun h => absurd (h 14 (by simp)) (by decide), ?_⟩
    clear hK' K'
    have HYa := hid (arr4_set HXa.out (zat D1))
    have HYb := hid (HXb.out.block (heap_set4 V W1.heap.size (W1.heap.size + 1) (by omega) (.int .i64 (zat D1 0)) (.int .i64 (zat D1 1)) (.int .i64 (zat D1 2)) (.int .i64 (zat D1 3))))
    have HBW : Hid (Below w.heap.size w ((((V.setCell ⟨W1.heap.size, 0, none⟩ (.int .i64 (zat D1 0))).setCell ⟨W1.heap.size, 1, none⟩ (.int .i64 (zat D1 1))).setCell ⟨W1.heap.size, 2, none⟩ (.int .i64 (zat D1 2))).setCell ⟨W1.heap.size, 3, none⟩ (.int .i64 (zat D1 3)))) := (((HBV.out.setCell (p := ⟨W1.heap.size, 0, none⟩) (by show w.heap.size ≤ W1.heap.size; omega) _).setCell (p := ⟨W1.heap.size, 1, none⟩) (by show w.heap.size ≤ W1.heap.size; omega) _).setCell (p := ⟨W1.heap.size, 2, none⟩) (by show w.heap.size ≤ W1.heap.size; omega) _).setCell (p := ⟨W1.heap.size, 3, none⟩) (by show w.heap.size ≤ W1.heap.size; omega) _
    clear az0 az1 az2 az3 ay0 ay1 ay2 ay3
    generalize (((V.setCell ⟨W1.heap.size, 0, none⟩ (.int .i64 (zat D1 0))).setCell ⟨W1.heap.size, 1, none⟩ (.int .i64 (zat D1 1))).setCell ⟨W1.heap.size, 2, none⟩ (.int .i64 (zat D1 2))).setCell ⟨W1.heap.size, 3, none⟩ (.int .i64 (zat D1 3)) = V2 at *
    have bz0 := HYb.out.cell (i := 0) (by decide)
    have by0 := HYb.out.frozen 0
    have bz1 := HYb.out.cell (i := 1) (by decide)
    have by1 := HYb.out.frozen 1
    have bz2 := HYb.out.cell (i := 2) (by decide)
    have by2 := HYb.out.frozen 2
    have bz3 := HYb.out.cell (i := 3) (by decide)
    have by3 := HYb.out.frozen 3
    refine wpAnyS_one (i := 15) (by kernel_rfl) ?_
    refine wpOp_step rfl (fun K' hK' => ?_)
    rw [if_pos (by rfl)]
    go_simp
    refine hK' _ _ ⟨fun h => absurd (h 15 (by simp)) (by decide), ?_⟩
    clear hK' K'
    refine wpAnyS_done (by kernel_rfl) ?_ _
    have HZb := arr4_set HYb.out (zat D2)
    have HZa := HYa.out.block (heap_set4 V2 (W1.heap.size + 1) W1.heap.size (by omega) (.int .i64 (zat D2 0)) (.int .i64 (zat D2 1)) (.int .i64 (zat D2 2)) (.int .i64 (zat D2 3)))
    have HBX := (((HBW.out.setCell (p := ⟨(W1.heap.size + 1), 0, none⟩) (by show w.heap.size ≤ (W1.heap.size + 1); omega) (.int .i64 (zat D2 0))).setCell (p := ⟨(W1.heap.size + 1), 1, none⟩) (by show w.heap.size ≤ (W1.heap.size + 1); omega) (.int .i64 (zat D2 1))).setCell (p := ⟨(W1.heap.size + 1), 2, none⟩) (by show w.heap.size ≤ (W1.heap.size + 1); omega) (.int .i64 (zat D2 2))).setCell (p := ⟨(W1.heap.size + 1), 3, none⟩) (by show w.heap.size ≤ (W1.heap.size + 1); omega) (.int .i64 (zat D2 3))
    exact hKK _ _ (HFin.out _ _ _ HBX HZa HZb _ _ _ _ _ _ _ _ _ _ _ _ _ _ _ _ _ _ _ _ _ _ _)
  · skip
    refine wpOp_step rfl (fun K' hK' => ?_)
    rw [if_pos (by rfl)]
    go_simp
    refine hK' _ _ ⟨fun _ => HKe.out _ (((Below.refl _ _).alloc (Nat.le_refl _) _).drew), ?_⟩
    clear hK' K'
    refine wpAnyS_one (i := 12) (by kernel_rfl) ?_
    refine wpOp_step rfl (fun K' hK' => ?_)
    rw [if_pos (by rfl)]
    go_simp
    refine hK' _ _ ⟨fun _ => HKe.out _ ((((Below.refl _ _).alloc (Nat.le_refl _) _).alloc (by simp) _).drew), ?_⟩
    clear hK' K'
    have HXa : Hid (ArrI ((W1.alloc (.cells #[.int .i64 0, .int .i64 0, .int .i64 0, .int .i64 0] 176)).alloc (.cells #[.int .i64 0, .int .i64 0, .int .i64 0, .int .i64 0] 176)).drew (W1.heap.size + 1) 176 4 (fun _ => 0)) := (ArrI.new2 W1 (.cells #[.int .i64 0, .int .i64 0, .int .i64 0, .int .i64 0] 176) 4 176 (fun _ => 0)).drew
    have HXb : Hid (ArrI ((W1.alloc (.cells #[.int .i64 0, .int .i64 0, .int .i64 0, .int .i64 0] 176)).alloc (.cells #[.int .i64 0, .int .i64 0, .int .i64 0, .int .i64 0] 176)).drew W1.heap.size 176 4 (fun _ => 0)) := ((ArrI.new W1 4 176 (fun _ => 0)).alloc (.cells #[.int .i64 0, .int .i64 0, .int .i64 0, .int .i64 0] 176)).drew
    have HBV : Hid (Below w.heap.size w ((W1.alloc (.cells #[.int .i64 0, .int .i64 0, .int .i64 0, .int .i64 0] 176)).alloc (.cells #[.int .i64 0, .int .i64 0, .int .i64 0, .int .i64 0] 176)).drew) := ((HB1.out.alloc HB1.out.size _).alloc (by have := HB1.out.size; simp; omega) _).drew
    have hn1 : w.heap.size ≤ W1.heap.size := HB1.out.size
    generalize ((W1.alloc (.cells #[.int .i64 0, .int .i64 0, .int .i64 0, .int .i64 0] 176)).alloc (.cells #[.int .i64 0, .int .i64 0, .int .i64 0, .int .i64 0] 176)).drew = V at *
    clear HKe hLk1 hLk2 hC0
    have az0 := HXa.out.cell (i := 0) (by decide)
    have ay0 := HXa.out.frozen 0
    have az1 := HXa.out.cell (i := 1) (by decide)
    have ay1 := HXa.out.frozen 1
    have az2 := HXa.out.cell (i := 2) (by decide)
    have ay2 := HXa.out.frozen 2
    have az3 := HXa.out.cell (i := 3) (by decide)
    have ay3 := HXa.out.frozen 3
    refine wpAnyS_one (i := 14) (by kernel_rfl) ?_
    refine wpOp_step rfl (fun K' hK' => ?_)
    rw [if_pos (by rfl)]
    go_simp
    refine hK' _ _ ⟨fun h => absurd (h 14 (by simp)) (by decide), ?_⟩
    clear hK' K'
    have HYa := hid (arr4_set HXa.out (zat D1))
    have HYb := hid (HXb.out.block (heap_set4 V (W1.heap.size + 1) W1.heap.size (by omega) (.int .i64 (zat D1 0)) (.int .i64 (zat D1 1)) (.int .i64 (zat D1 2)) (.int .i64 (zat D1 3))))
    have HBW : Hid (Below w.heap.size w ((((V.setCell ⟨(W1.heap.size + 1), 0, none⟩ (.int .i64 (zat D1 0))).setCell ⟨(W1.heap.size + 1), 1, none⟩ (.int .i64 (zat D1 1))).setCell ⟨(W1.heap.size + 1), 2, none⟩ (.int .i64 (zat D1 2))).setCell ⟨(W1.heap.size + 1), 3, none⟩ (.int .i64 (zat D1 3)))) := (((HBV.out.setCell (p := ⟨(W1.heap.size + 1), 0, none⟩) (by show w.heap.size ≤ (W1.heap.size + 1); omega) _).setCell (p := ⟨(W1.heap.size + 1), 1, none⟩) (by show w.heap.size ≤ (W1.heap.size + 1); omega) _).setCell (p := ⟨(W1.heap.size + 1), 2, none⟩) (by show w.heap.size ≤ (W1.heap.size + 1); omega) _).setCell (p := ⟨(W1.heap.size + 1), 3, none⟩) (by show w.heap.size ≤ (W1.heap.size + 1); omega) _
    clear az0 az1 az2 az3 ay0 ay1 ay2 ay3
    generalize (((V.setCell ⟨(W1.heap.size + 1), 0, none⟩ (.int .i64 (zat D1 0))).setCell ⟨(W1.heap.size + 1), 1, none⟩ (.int .i64 (zat D1 1))).setCell ⟨(W1.heap.size + 1), 2, none⟩ (.int .i64 (zat D1 2))).setCell ⟨(W1.heap.size + 1), 3, none⟩ (.int .i64 (zat D1 3)) = V2 at *
    have bz0 := HYb.out.cell (i := 0) (by decide)
    have by0 := HYb.out.frozen 0
    have bz1 := HYb.out.cell (i := 1) (by decide)
    have by1 := HYb.out.frozen 1
    have bz2 := HYb.out.cell (i := 2) (by decide)
    have by2 := HYb.out.frozen 2
    have bz3 := HYb.out.cell (i := 3) (by decide)
    have by3 := HYb.out.frozen 3
    refine wpAnyS_one (i := 15) (by kernel_rfl) ?_
    refine wpOp_step rfl (fun K' hK' => ?_)
    rw [if_pos (by rfl)]
    go_simp
    refine hK' _ _ ⟨fun h => absurd (h 15 (by simp)) (by decide), ?_⟩
    clear hK' K'
    refine wpAnyS_done (by kernel_rfl) ?_ _
    have HZb := arr4_set HYb.out (zat D2)
    have HZa := HYa.out.block (heap_set4 V2 W1.heap.size (W1.heap.size + 1) (by omega) (.int .i64 (zat D2 0)) (.int .i64 (zat D2 1)) (.int .i64 (zat D2 2)) (.int .i64 (zat D2 3)))
    have HBX := (((HBW.out.setCell (p := ⟨W1.heap.size, 0, none⟩) (by show w.heap.size ≤ W1.heap.size; omega) (.int .i64 (zat D2 0))).setCell (p := ⟨W1.heap.size, 1, none⟩) (by show w.heap.size ≤ W1.heap.size; omega) (.int .i64 (zat D2 1))).setCell (p := ⟨W1.heap.size, 2, none⟩) (by show w.heap.size ≤ W1.heap.size; omega) (.int .i64 (zat D2 2))).setCell (p := ⟨W1.heap.size, 3, none⟩) (by show w.heap.size ≤ W1.heap.size; omega) (.int .i64 (zat D2 3))
    exact hKK _ _ (HFin.out _ _ _ HBX HZa HZb _ _ _ _ _ _ _ _ _ _ _ _ _ _ _ _ _ _ _ _ _ _ _)

end Go.Proofs.YtmmlphdekeflfaaGreatDoor

namespace Go.Proofs.YtmmlphdekeflfaaGreatDoor
open Go.RowKit

theorem eq_of_zat {x y : List Int} (hl : x.length = y.length) (h : ∀ j, j < x.length → zat x j = zat y j) : x = y := by
  apply List.ext_getElem hl
  intro i h1 h2
  have := h i h1
  simpa [zat, h1, h2] using this

set_option maxRecDepth 100000 in
set_option maxHeartbeats 2000000 in
theorem equal_any (c1 c2 : Nat) (a1 a2 : Option Addr) (x y : List Int) (w : World) (hx : x.length ≤ 281474976710656) (h1 : RowB w.heap.size w a1 x) (h2 : RowB w.heap.size w a2 y) :
    Calls Tryz.prog 78 #[.slice a1 x.length c1, .slice a2 y.length c2] w fun e w' => e = .returned (.bool (decide (x = y))) ∧ Below w.heap.size w w' := by
  have H1 := hid h1
  have H2 := hid h2
  clear h1 h2
  by_cases hl : x.length = y.length
  · obtain ⟨n, hn⟩ : ∃ n, n = x.length := ⟨_, rfl⟩
    have HN := hid hn
    have HLY : Hid (y.length = n) := by rw [hn]; exact hl.symm
    rw [← hl, ← hn]
    rw [← hn] at hx
    clear hn hl
    go_enter Tryz.func78, Tryz.ntmps78
    go_wp2_with fail
    go_loopw [13] (fun iv wr => ∃ k : Nat, k ≤ n ∧ iv = .int .i64 k ∧ Hid ((∀ j, j < k → zat x j = zat y j) ∧ Below w.heap.size w wr)) (fun iv _ => n - (intOf iv).toNat)
    case atStart => exact ⟨0, by omega, rfl, fun j hj => by omega, Below.refl _ _⟩
    case round =>
      obtain ⟨k, hk, rfl, hC⟩ := hrel
      by_cases hlt : k < n
      · have hlt2 : (k : Int) < (n : Int) := by omega
        have hks : IntKind.i64.wrap ((k : Int) + 1) = (k : Int) + 1 := by rw [IntKind.wrap_i64]; omega
        obtain ⟨b1, o1, rfl, hb1, hc1⟩ := H1.out k (by rw [← HN.out]; exact hlt)
        obtain ⟨b2, o2, rfl, hb2, hc2⟩ := H2.out k (by rw [HLY.out]; exact hlt)
        have k1 := (hC.out.2.cell (p := ⟨b1, o1 + k, none⟩) hb1).trans hc1
        have k2 := (hC.out.2.cell (p := ⟨b2, o2 + k, none⟩) hb2).trans hc2
        have HB := hid hC.out.2
        have HP := hid hC.out.1
        clear hC hc1 hc2 hb1 hb2
        by_cases he : zat x k = zat y k
        · have HE : Hid ((∀ j, j < k + 1 → zat x j = zat y j) ∧ Below w.heap.size w wr.drew) := ⟨fun j hj => by
            rcases Nat.lt_or_ge j k with h' | h'
            · exact HP.out j h'
            · rw [show j = k by omega]; exact he, HB.out.drew⟩
          rw [he] at k1
          generalize zat y k = v at *
          clear he
          go_wp2_with fail
          go_region_held3 (fun W => W.cell? ⟨b1, o1 + k, none⟩ = some (.int .i64 v) ∧ W.cell? ⟨b2, o2 + k, none⟩ = some (.int .i64 v)) (go_keep) (fail)
          go_wp2_with fail
          go_roundw
          case rel => exact ⟨k + 1, by omega, by go_num, HE⟩
          case measure => simp [intOf]; omega
        · have HNE : Hid (¬ x = y) := fun e => he (by rw [e])
          have hne : (zat x k != zat y k) = true := by simpa using he
          generalize zat x k = u at *
          generalize zat y k = v at *
          go_wp2_with fail
          go_region_held3 (fun W => W.cell? ⟨b1, o1 + k, none⟩ = some (.int .i64 u) ∧ W.cell? ⟨b2, o2 + k, none⟩ = some (.int .i64 v)) (go_keep) (fail)
          go_wp2_with fail
          go_ret
          exact ⟨by rw [decide_eq_false HNE.out]; rfl, HB.out.drew⟩
      · obtain rfl : k = n := by omega
        have HE := hC
        clear hC
        go_wp2_with fail
        go_ret
        refine ⟨?_, HE.out.2⟩
        rw [decide_eq_true (eq_of_zat (by rw [← HN.out]; exact HLY.out.symm) (fun j hj => HE.out.1 j (by rw [HN.out]; exact hj)))]
        rfl
  · have hne : ((x.length : Int) != (y.length : Int)) = true := by simp; omega
    have HNE : Hid (¬ x = y) := fun e => hl (by rw [e])
    clear hl
    go_enter Tryz.func78, Tryz.ntmps78
    go_wp2_with fail
    go_ret
    exact ⟨by rw [decide_eq_false HNE.out]; rfl, Below.refl _ _⟩

set_option maxRecDepth 100000 in
set_option maxHeartbeats 2000000 in
theorem rowlist_any (q b cap : Nat) (a : Option Addr) (row : List Int) (w : World) (h3 : 3 ≤ q) (hm : q ≤ 2147483647) (hp : w.cell? ⟨b, 0, none⟩ = some (.int .i64 q)) (hlen : row.length ≤ 17592186044000) (hfit : Fits row) (hl : Lst w.heap.size w a cap row) :
    Calls Tryz.prog 77 #[.pointer (some ⟨b, 0, none⟩), .slice a row.length cap] w fun e w' => ∃ v, e = .returned v ∧ (∃ a' c', v = .slice a' (elr q (0 :: row)).length c' ∧ Lst w'.heap.size w' a' c' (elr q (0 :: row))) ∧ Below w.heap.size w w' := by
  have hbl : b < w.heap.size := heap_lt hp
  have hB1 : Below w.heap.size w (w.drew.alloc (.cells #[.slice a row.length cap] 23)) := (Below.refl _ _).drew.alloc (Nat.le_refl _) _
  have e0 : (0 :: row) = 0 :: [row].flatten := by simp
  obtain ⟨L, hL⟩ : ∃ L, L = 0 :: row := ⟨_, rfl⟩
  have hLl : L.length = row.length + 1 := by rw [hL]; rfl
  have hLf : Fits L := by rw [hL]; exact fits_cons (by omega) hfit
  have HJ : Hid (Calls Tryz.prog 142 #[.int .i64 0, .slice (some ⟨w.heap.size, 0, none⟩) 1 1] (w.alloc (.cells #[.slice a row.length cap] 23)) fun e w' => ∃ v, e = .returned v ∧ Hid (∃ bs, w'.ownsRow bs 3 1 v L.length (L.map (Value.int .i64))) ∧ Below w.heap.size w w') := by
    have hlr := lstR_one hl
    have hsz : (w.alloc (.cells #[.slice a row.length cap] 23)).heap.size = w.heap.size + 1 := by simp
    have hlr2 : LstR (w.heap.size + 1) (w.alloc (.cells #[.slice a row.length cap] 23)) (some ⟨w.heap.size, 0, none⟩) 1 [row] := LstR.below (A := w.drew.alloc (.cells #[.slice a row.length cap] 23)) ⟨rfl, rfl, rfl, Nat.le_refl _, fun _ _ => rfl⟩ hlr
    refine (joined_any 0 1 (some ⟨w.heap.size, 0, none⟩) [row] (w.alloc (.cells #[.slice a row.length cap] 23)) (by simp; omega) (by simp) (by rw [hsz]; exact hlr2)).mono ?_
    rintro e w' ⟨v, rfl, ho, hb'⟩
    rw [← e0, ← hL] at ho
    exact ⟨v, rfl, ⟨_, ho⟩, (show Below w.heap.size w (w.alloc (.cells #[.slice a row.length cap] 23)) from (Below.refl _ _).alloc (Nat.le_refl _) _).trans (hb'.mono (by rw [hsz]; omega))⟩
  have HE : Hid (∀ (W : World) (v : Value), Hid (∃ bs, W.ownsRow bs 3 1 v L.length (L.map (Value.int .i64))) → Below w.heap.size w W → Calls Tryz.prog 141 #[.pointer (some ⟨b, 0, none⟩), v] W fun e w' => ∃ v', e = .returned v' ∧ Hid ((∃ a' c', v' = .slice a' (elr q L).length c' ∧ Lst w'.heap.size w' a' c' (elr q L)) ∧ Below w.heap.size w w')) := fun W v ho hb => by
    obtain ⟨bs, ho⟩ := ho.out
    obtain ⟨a2, c2, rfl, hl2⟩ := lst_of_owns ho
    refine (elements_any q b c2 a2 L W h3 hm ((hb.cell (p := ⟨b, 0, none⟩) hbl).trans hp) (by omega) hLf hl2.row).mono ?_
    rintro e w' ⟨rfl, hA, hb'⟩
    have hel : (elr q L).length = L.length := by unfold elr; rw [ls_len]
    refine ⟨_, rfl, ⟨_, L.length, by rw [hel], ⟨fun k hk => ⟨_, 0, rfl, hA.lt, ?_⟩, by omega, fun e => by cases e⟩⟩, hb.trans (hb'.mono hb.size)⟩
    rw [hel] at hk
    rw [Nat.zero_add, hA.cell hk]
    unfold elr
    rw [ls_at _ _ _ hk]
  rw [← hL]
  clear hl hfit hL e0 hLf hLl hp hB1
  go_enter Tryz.func77, Tryz.ntmps77
  go_wp2_with fail
  refine HJ.out.mono ?_
  rintro e w1 ⟨v, rfl, ho, hb1⟩
  have HE1 := hid (HE.out w1 v ho hb1)
  clear HE HJ ho hb1
  go_wp2_with fail
  refine HE1.out.mono ?_
  rintro e w2 ⟨v', rfl, hF⟩
  go_wp2_with fail
  go_ret
  exact ⟨_, rfl, hF.out⟩

end Go.Proofs.YtmmlphdekeflfaaGreatDoor
