/- Package tree: parting. -/
import Derived.Test.YtionbilheeheaafTrgY
namespace Go.Proofs.Ytionbilheeheaaf
open Go.RowKit

/-- a list, as a value -/
def LstV (W : World) (v : Value) (U : List Int) : Prop := ∃ a c, v = .slice a U.length c ∧ Lst W.heap.size W a c U
theorem LstV.keep {W W' : World} {v : Value} {U : List Int} (h : LstV W v U) (hb : Below W.heap.size W W') : LstV W' v U := by
  obtain ⟨a, c, rfl, hl⟩ := h
  exact ⟨a, c, rfl, (hl.below hb).mono hb.size⟩
theorem LstV.of {W : World} {base : Nat} {v : Value} {U : List Int} (h : W.ownsRow base 3 1 v U.length (U.map (Value.int .i64))) : LstV W v U := by
  obtain ⟨a, c, rfl, hl⟩ := lst_of_owns h
  exact ⟨a, c, rfl, hl⟩
/-- how far it is down to a place -/
def mdG (G : Nat) (W : World) : Nat := (intOf ((W.cell? ⟨G, 1, none⟩).getD undef)).toNat - (intOf ((W.cell? ⟨G, 0, none⟩).getD undef)).toNat
theorem mdG_eq {G a b : Nat} {W : World} (h0 : W.cell? ⟨G, 0, none⟩ = some (.int .i64 (a : Int))) (h1 : W.cell? ⟨G, 1, none⟩ = some (.int .i64 (b : Int))) : mdG G W = b - a := by
  unfold mdG
  rw [h0, h1]
  simp [intOf]
theorem pair_red {q : Nat} (h3 : 3 ≤ q) {D1 D2 : List Int} (h1 : Dgst q D1) (h2 : Dgst q D2) : elr q (1 :: (D1 ++ D2)) = 1 :: (D1 ++ D2) := by
  have e : ∀ {D : List Int}, Dgst q D → D.map (· % (q : Int)) = D := fun {D} h => by
    apply List.ext_getElem (by simp)
    intro i h1 h2
    have := h.2 i (by rw [← h.1]; exact h2)
    simp only [List.getElem_map]
    simp only [zat, List.getElem?_eq_getElem h2, Option.getD_some] at this
    exact Int.emod_eq_of_lt this.1 this.2
  rw [elr_map, List.map_cons, List.map_append, e h1, e h2, Int.emod_eq_of_lt (by omega) (by omega)]
/-- what parting answers -/
def PartR (q n : Nat) (w : World) (e : Ending) (w' : World) : Prop := ∃ v1 v2 U V, e = .returned (.tuple #[v1, v2]) ∧ LstV w' v1 U ∧ LstV w' v2 V ∧ Clash q n U V ∧ Below w.heap.size w w'

/-- the state of the way down -/
structure PSt (q n N : Nat) (psA psB : List Int) (rowsA nodesA rowsB nodesB : List (List Int)) (MA MB : Nat → Nat → Option (List Int)) (w : World) (a b : Nat) (wr : World) : Prop where
  row : wr.rowIs w.heap.size 53 2 (duo (.int .i64 (a : Int)) (.int .i64 (b : Int)))
  below : Below w.heap.size w wr
  wayA : Way q n N psA rowsA nodesA MA a b
  wayB : Way q n N psB rowsB nodesB MB a b
  same : DV q n (M0 q n N psA rowsA nodesA) a b = DV q n (M0 q n N psB rowsB nodesB) a b

set_option maxRecDepth 100000 in
set_option maxHeartbeats 4000000 in
theorem parting_any (q n N s g1 B1 g2 B2 x0 jA jB : Nat) (psA psB : List Int) (rowsA nodesA rowsB nodesB : List (List Int)) (MA MB : Nat → Nat → Option (List Int)) (X Y : List Int) (vX vY : Value) (w : World) (h3 : 3 ≤ q) (hq : q ≤ 2147483647) (h1 : 1 ≤ N) (hN : N ≤ 65536)
    (hDA : ∀ a b, Dgst q (DV q n (M0 q n N psA rowsA nodesA) a b)) (hDB : ∀ a b, Dgst q (DV q n (M0 q n N psB rowsB nodesB) a b)) (hjA : jA < psA.length) (hzA : zat psA jA = (x0 : Int)) (hjB : jB < psB.length) (hzB : zat psB jB = (x0 : Int)) (hx0 : x0 < N)
    (hw1 : WlkAt w g1 B1 s) (hm1 : MapIs w B1 MA) (hs1 : Snd MA (DV q n (M0 q n N psA rowsA nodesA))) (hc1 : ClM (M0 q n N psA rowsA nodesA) MA) (hw2 : WlkAt w g2 B2 s) (hm2 : MapIs w B2 MB) (hs2 : Snd MB (DV q n (M0 q n N psB rowsB nodesB))) (hc2 : ClM (M0 q n N psB rowsB nodesB) MB)
    (hA : Way q n N psA rowsA nodesA MA 0 N) (hB : Way q n N psB rowsB nodesB MB 0 N) (hsame : DV q n (M0 q n N psA rowsA nodesA) 0 N = DV q n (M0 q n N psB rowsB nodesB) 0 N)
    (hX : LstV w vX X) (hY : LstV w vY Y) (hend : DV q n (M0 q n N psA rowsA nodesA) x0 (x0 + 1) = DV q n (M0 q n N psB rowsB nodesB) x0 (x0 + 1) → Clash q n X Y) :
    Calls Try.prog 36 #[.pointer (some ⟨g1, 0, none⟩), .pointer (some ⟨g2, 0, none⟩), gk 0 N, .int .i64 (x0 : Int), vX, vY] w (PartR q n w) := by
  unfold gk
  have hmx : Try.prog.follows .mixedOrders = true := by kernel_rfl
  have HST : Hid (PSt q n N psA psB rowsA nodesA rowsB nodesB MA MB w 0 N (w.alloc (.cells #[.int .i64 ((0 : Nat) : Int), .int .i64 (N : Int)] 53))) := ⟨duo_new w _ _ _, (Below.refl _ _).alloc (Nat.le_refl _) _, hA, hB, hsame⟩
  have HDA := hid hDA
  have HDB := hid hDB
  have HXX := hid hX
  have HYY := hid hY
  have HEN := hid hend
  have HM1 := hid hm1
  have HM2 := hid hm2
  have HW1 := hid hw1
  have HW2 := hid hw2
  have HS1 := hid hs1
  have HS2 := hid hs2
  have HC1 := hid hc1
  have HC2 := hid hc2
  have HzA := hid hzA
  have HzB := hid hzB
  clear hDA hDB hX hY hend hm1 hm2 hw1 hw2 hs1 hs2 hc1 hc2 hA hB hsame hzA hzB
  go_enter Try.func36, Try.ntmps36
  go_wp2_with fail
  go_loopw [14] (fun _ wr => ∃ a b : Nat, a ≤ x0 ∧ x0 < b ∧ b ≤ N ∧ Hid (PSt q n N psA psB rowsA nodesA rowsB nodesB MA MB w a b wr)) (fun _ wr => mdG w.heap.size wr)
  case atStart => exact ⟨0, N, Nat.zero_le _, hx0, Nat.le_refl _, HST.out⟩
  case round =>
    obtain ⟨a, b, ha, hb, hbN, hC⟩ := hrel
    have k0 := hC.out.row.cell (i := 0) (by omega)
    have k1 := hC.out.row.cell (i := 1) (by omega)
    simp only [duo] at k0 k1
    have hmd := mdG_eq k0 k1
    have HMD := hid hmd
    clear hmd
    by_cases h2 : 2 ≤ b - a
    · have h22 : (1 : Int) < (b : Int) - (a : Int) := by omega
      obtain ⟨l1, l2, l3⟩ := lft_spec (b - a)
      have l3' := l3 h2
      obtain ⟨m, hm⟩ : ∃ m, m = a + lft (b - a) := ⟨_, rfl⟩
      obtain ⟨wA1, wA2, eA⟩ := hC.out.wayA.down h1 hjA (by rw [HzA.out]; omega) (by rw [HzA.out]; omega) h2 HC1.out
      obtain ⟨wB1, wB2, eB⟩ := hC.out.wayB.down h1 hjB (by rw [HzB.out]; omega) (by rw [HzB.out]; omega) h2 HC2.out
      rw [← hm] at wA1 wA2 eA wB1 wB2 eB
      have hmab : a < m ∧ m < b := by omega
      have HPT : Hid (∀ W, Calls Try.prog 52 #[.agg #[.int .i64 (a : Int), .int .i64 (b : Int)]] W fun e w' => e = .returned (.tuple #[.agg #[.int .i64 (a : Int), .int .i64 (m : Int)], .agg #[.int .i64 (m : Int), .int .i64 (b : Int)]]) ∧ Below W.heap.size W w') := fun W => by rw [hm]; exact parts_any a b (b - a) (by omega) (by omega) W
      have HA1 := hid wA1
      have HA2 := hid wA2
      have HB1 := hid wB1
      have HB2 := hid wB2
      have HEA := hid eA
      have HEB := hid eB
      have HLE : Hid (m ≤ 1000000 ∧ b ≤ 1000000 ∧ a ≤ 1000000) := by unfold Hid; omega
      clear hm l1 l2 l3 l3' wA1 wA2 wB1 wB2 eA eB
      go_wp2_with fail
      refine (HPT.out wr).mono ?_
      rintro e w1 ⟨rfl, hb1⟩
      have HBW1 := hid (hC.out.below.trans (hb1.mono hC.out.below.size))
      have HR1 := hid (hC.out.row.of_block (hb1.block _ hC.out.row.lt))
      clear hb1
      go_wp2_with fail
      have HLc := hid ((duo_new w1 53 (.int .i64 (a : Int)) (.int .i64 (m : Int))).alloc (.cells #[.int .i64 (m : Int), .int .i64 (b : Int)] 53))
      have HRc : Hid (((w1.alloc (.cells #[.int .i64 (a : Int), .int .i64 (m : Int)] 53)).alloc (.cells #[.int .i64 (m : Int), .int .i64 (b : Int)] 53)).rowIs (w1.heap.size + 1) 53 2 (duo (.int .i64 (m : Int)) (.int .i64 (b : Int)))) := by
        have := duo_new (w1.alloc (.cells #[.int .i64 (a : Int), .int .i64 (m : Int)] 53)) 53 (.int .i64 (m : Int)) (.int .i64 (b : Int))
        rwa [show (w1.alloc (.cells #[.int .i64 (a : Int), .int .i64 (m : Int)] 53)).heap.size = w1.heap.size + 1 from by simp] at this
      have HB2W : Hid (Below w1.heap.size w1 ((w1.alloc (.cells #[.int .i64 (a : Int), .int .i64 (m : Int)] 53)).alloc (.cells #[.int .i64 (m : Int), .int .i64 (b : Int)] 53))) := ((Below.refl _ _).alloc (Nat.le_refl _) _).alloc (by simp) _
      have HRW := hid (HR1.out.of_block (HB2W.out.block _ HR1.out.lt))
      have HBW2 := hid (HBW1.out.trans (HB2W.out.mono HBW1.out.size))
      have hG1 : w.heap.size < w1.heap.size := HR1.out.lt
      generalize (w1.alloc (.cells #[.int .i64 (a : Int), .int .i64 (m : Int)] 53)).alloc (.cells #[.int .i64 (m : Int), .int .i64 (b : Int)] 53) = W2 at *
      have HKe : Hid (∀ W, Below W2.heap.size W2 W → W.cell? ⟨w1.heap.size, 0, none⟩ = some (.int .i64 (a : Int)) ∧ W.cell? ⟨w1.heap.size, 1, none⟩ = some (.int .i64 (m : Int)) ∧ W.cell? ⟨w1.heap.size + 1, 0, none⟩ = some (.int .i64 (m : Int)) ∧ W.cell? ⟨w1.heap.size + 1, 1, none⟩ = some (.int .i64 (b : Int))) := fun W h =>
        ⟨(h.cell (p := ⟨w1.heap.size, 0, none⟩) HLc.out.lt).trans (HLc.out.cell (i := 0) (by omega)), (h.cell (p := ⟨w1.heap.size, 1, none⟩) HLc.out.lt).trans (HLc.out.cell (i := 1) (by omega)), (h.cell (p := ⟨w1.heap.size + 1, 0, none⟩) HRc.out.lt).trans (HRc.out.cell (i := 0) (by omega)), (h.cell (p := ⟨w1.heap.size + 1, 1, none⟩) HRc.out.lt).trans (HRc.out.cell (i := 1) (by omega))⟩
      obtain ⟨LA, hLA⟩ : ∃ LA, LA = 1 :: (DV q n (M0 q n N psA rowsA nodesA) a m ++ DV q n (M0 q n N psA rowsA nodesA) m b) := ⟨_, rfl⟩
      obtain ⟨LB, hLB⟩ : ∃ LB, LB = 1 :: (DV q n (M0 q n N psB rowsB nodesB) a m ++ DV q n (M0 q n N psB rowsB nodesB) m b) := ⟨_, rfl⟩
      have hAl : LA.length = 9 := by rw [hLA, List.length_cons, List.length_append, (HDA.out _ _).1, (HDA.out _ _).1]
      have hBl : LB.length = 9 := by rw [hLB, List.length_cons, List.length_append, (HDB.out _ _).1, (HDB.out _ _).1]
      have HP1 : Hid (∀ W, Below W2.heap.size W2 W → Calls Try.prog 60 #[.pointer (some ⟨g1, 0, none⟩), .agg #[.int .i64 (a : Int), .int .i64 (m : Int)], .agg #[.int .i64 (m : Int), .int .i64 (b : Int)]] W fun e w' => ∃ aa ca, e = .returned (.slice aa 9 ca) ∧ Hid (LstV w' (.slice aa 9 ca) LA) ∧ Below W2.heap.size W2 w') := fun W h => by
        have hbw := HBW2.out.trans (h.mono HBW2.out.size)
        obtain ⟨d1, hd1⟩ := Option.ne_none_iff_exists'.1 HA1.out.found
        obtain ⟨d2, hd2⟩ := Option.ne_none_iff_exists'.1 HA2.out.found
        have e1 := HS1.out _ _ _ hd1
        have e2 := HS1.out _ _ _ hd2
        subst e1
        subst e2
        refine (pairlist_any s g1 B1 a m b _ _ MA W (HW1.out.block (hbw.block _ HW1.out.lt)) (HM1.out.below hbw HM1.out.lt) hd1 hd2 (HDA.out _ _).1 (HDA.out _ _).1 (by have := HLE.out; omega) (by have := HLE.out; omega) (by have := HLE.out; omega)).mono ?_
        rintro e w' ⟨v, rfl, ho, hb'⟩
        rw [← hLA] at ho
        obtain ⟨aa, ca, rfl, hl⟩ := LstV.of ho
        rw [hAl]
        exact ⟨aa, ca, rfl, ⟨aa, ca, by rw [hAl], hl⟩, h.trans (hb'.mono h.size)⟩
      have HP2 : Hid (∀ W, Below W2.heap.size W2 W → Calls Try.prog 60 #[.pointer (some ⟨g2, 0, none⟩), .agg #[.int .i64 (a : Int), .int .i64 (m : Int)], .agg #[.int .i64 (m : Int), .int .i64 (b : Int)]] W fun e w' => ∃ ab cb, e = .returned (.slice ab 9 cb) ∧ Hid (LstV w' (.slice ab 9 cb) LB) ∧ Below W2.heap.size W2 w' ∧ Hid (Below W.heap.size W w')) := fun W h => by
        have hbw := HBW2.out.trans (h.mono HBW2.out.size)
        obtain ⟨d1, hd1⟩ := Option.ne_none_iff_exists'.1 HB1.out.found
        obtain ⟨d2, hd2⟩ := Option.ne_none_iff_exists'.1 HB2.out.found
        have e1 := HS2.out _ _ _ hd1
        have e2 := HS2.out _ _ _ hd2
        subst e1
        subst e2
        refine (pairlist_any s g2 B2 a m b _ _ MB W (HW2.out.block (hbw.block _ HW2.out.lt)) (HM2.out.below hbw HM2.out.lt) hd1 hd2 (HDB.out _ _).1 (HDB.out _ _).1 (by have := HLE.out; omega) (by have := HLE.out; omega) (by have := HLE.out; omega)).mono ?_
        rintro e w' ⟨v, rfl, ho, hb'⟩
        rw [← hLB] at ho
        obtain ⟨aa, ca, rfl, hl⟩ := LstV.of ho
        rw [hBl]
        exact ⟨aa, ca, rfl, ⟨aa, ca, by rw [hBl], hl⟩, h.trans (hb'.mono h.size), hb'⟩
      have HLA := hid hLA
      have HLB := hid hLB
      have HAL := hid hAl
      have HBL := hid hBl
      clear hLA hLB hAl hBl
      have hb30 : Below W2.heap.size W2 W2.drew := (Below.refl _ _).drew
      have hC0 := HKe.out _ hb30
      clear k0 k1
      refine wp_region_S (C := fun W => W.cell? ⟨w1.heap.size, 0, none⟩ = some (.int .i64 (a : Int)) ∧ W.cell? ⟨w1.heap.size, 1, none⟩ = some (.int .i64 (m : Int)) ∧ W.cell? ⟨w1.heap.size + 1, 0, none⟩ = some (.int .i64 (m : Int)) ∧ W.cell? ⟨w1.heap.size + 1, 1, none⟩ = some (.int .i64 (b : Int))) (st := [9]) hmx ?_
      show wpAnyS _ _ _ _ _ _ 10 (Array.replicate 10 false) _ _
      refine wpAnyS_pure (i := 0) (v := (.pointer (some ⟨g1, 0, none⟩))) rfl (by kernel_rfl) (by kernel_rfl) (by kernel_rfl) (by kernel_rfl) (fun _ _ _ h => h) (Or.inl ⟨by rfl, fun W _ => ?_⟩) (fun _ => hC0) ?_
      · go_simp
      refine wpAnyS_take (i := 1) (v := (.agg #[.int .i64 (a : Int), .int .i64 (m : Int)])) rfl (by kernel_rfl) (by kernel_rfl) (by kernel_rfl) (by kernel_rfl) (by kernel_rfl) (by kernel_rfl) (fun _ _ _ h => h) (Or.inl ⟨by rfl, fun W hC => ?_⟩) hC0 ?_
      · obtain ⟨q0, q1, q2, q3⟩ := hC
        go_simp
      refine wpAnyS_take (i := 2) (v := (.agg #[.int .i64 (m : Int), .int .i64 (b : Int)])) rfl (by kernel_rfl) (by kernel_rfl) (by kernel_rfl) (by kernel_rfl) (by kernel_rfl) (by kernel_rfl) (fun _ _ _ h => h) (Or.inl ⟨by rfl, fun W hC => ?_⟩) hC0 ?_
      · obtain ⟨q0, q1, q2, q3⟩ := hC
        go_simp
      refine wpAnyS_pure (i := 4) (v := (.pointer (some ⟨g2, 0, none⟩))) rfl (by kernel_rfl) (by kernel_rfl) (by kernel_rfl) (by kernel_rfl) (fun _ _ _ h => h) (Or.inl ⟨by rfl, fun W _ => ?_⟩) (fun _ => hC0) ?_
      · go_simp
      refine wpAnyS_take (i := 5) (v := (.agg #[.int .i64 (a : Int), .int .i64 (m : Int)])) rfl (by kernel_rfl) (by kernel_rfl) (by kernel_rfl) (by kernel_rfl) (by kernel_rfl) (by kernel_rfl) (fun _ _ _ h => h) (Or.inl ⟨by rfl, fun W hC => ?_⟩) hC0 ?_
      · obtain ⟨q0, q1, q2, q3⟩ := hC
        go_simp
      refine wpAnyS_take (i := 6) (v := (.agg #[.int .i64 (m : Int), .int .i64 (b : Int)])) rfl (by kernel_rfl) (by kernel_rfl) (by kernel_rfl) (by kernel_rfl) (by kernel_rfl) (by kernel_rfl) (fun _ _ _ h => h) (Or.inl ⟨by rfl, fun W hC => ?_⟩) hC0 ?_
      · obtain ⟨q0, q1, q2, q3⟩ := hC
        go_simp
      refine wpAnyS_one (i := 3) (by kernel_rfl) ?_
      refine wpOp_step rfl (fun K' hK' => ?_)
      rw [if_pos (by rfl)]
      go_simp
      refine (HP1.out _ hb30).mono ?_
      rintro e w' ⟨aa, ca, rfl, hoa, hbv1⟩
      refine hK' _ _ ⟨fun _ => HKe.out _ hbv1, ?_⟩
      clear hK' K'
      refine wpAnyS_one (i := 7) (by kernel_rfl) ?_
      refine wpOp_step rfl (fun K' hK' => ?_)
      rw [if_pos (by rfl)]
      go_simp
      refine (HP2.out _ hbv1).mono ?_
      rintro e w' ⟨ab, cb, rfl, hob, hbv2, hkeep⟩
      refine hK' _ _ ⟨fun _ => HKe.out _ hbv2, ?_⟩
      clear hK' K'
      refine wpAnyS_one (i := 8) (by kernel_rfl) ?_
      refine wpOp_step rfl (fun K' hK' => ?_)
      rw [if_pos (by rfl)]
      go_simp
      refine hK' _ _ ⟨fun _ => HKe.out _ hbv2, ?_⟩
      clear hK' K'
      refine wpAnyS_one (i := 9) (by kernel_rfl) ?_
      refine wpOp_step rfl (fun K' hK' => ?_)
      rw [if_pos (by rfl)]
      go_simp
      refine hK' _ _ ⟨fun h => absurd (h 9 (by simp)) (by decide), ?_⟩
      clear hK' K'
      refine wpAnyS_done (by kernel_rfl) ?_ _
      have HLSA := hid (hoa.out.keep hkeep.out)
      have HLSB := hid hob.out
      have HEQ : Hid (Calls Try.prog 35 #[.slice aa 9 ca, .slice ab 9 cb] w' fun e w'' => e = .returned (.bool (decide (LA = LB))) ∧ Below w'.heap.size w' w'') := by
        obtain ⟨a1, c1, e1, hl1⟩ := HLSA.out
        obtain ⟨a2, c2, e2, hl2⟩ := HLSB.out
        rw [HAL.out] at e1
        rw [HBL.out] at e2
        cases e1
        cases e2
        have := equal_any ca cb aa ab LA LB w' (by have := HAL.out; omega) hl1.row hl2.row
        rw [HAL.out, HBL.out] at this
        exact this
      have HBV2 := hid hbv2
      clear hoa hob hkeep hbv1 hb30 hC0 HP1 HP2 hbv2
      by_cases hab : LA = LB
      · rw [decide_eq_true hab] at HEQ
        have hsub : DV q n (M0 q n N psA rowsA nodesA) a m = DV q n (M0 q n N psB rowsB nodesB) a m ∧ DV q n (M0 q n N psA rowsA nodesA) m b = DV q n (M0 q n N psB rowsB nodesB) m b := by
          have := hab
          rw [HLA.out, HLB.out] at this
          exact List.append_inj (List.cons.inj this).2 (by rw [(HDA.out _ _).1, (HDB.out _ _).1])
        have HSUB := hid hsub
        clear hab hsub
        go_wp2_with fail
        refine HEQ.out.mono ?_
        rintro e w5 ⟨rfl, hb5⟩
        have hb25 := HBV2.out.trans (hb5.mono HBV2.out.size)
        obtain ⟨q0, q1, q2, q3⟩ := HKe.out w5 hb25
        have HRG := hid (HRW.out.of_block (hb25.block _ HRW.out.lt))
        have HBG := hid (HBW2.out.trans (hb25.mono HBW2.out.size))
        have z0 := HRG.out.cell (i := 0) (by omega)
        have z1 := HRG.out.cell (i := 1) (by omega)
        have y0 := HRG.out.frozen 0
        have y1 := HRG.out.frozen 1
        have hne1 : w.heap.size ≠ w1.heap.size := by omega
        have hne2 : w.heap.size ≠ w1.heap.size + 1 := by omega
        have HNR := hid (duo_set1 (duo_set0 HRG.out (.int .i64 (a : Int))) (.int .i64 (m : Int)))
        have HNB : Hid (Below w.heap.size w ((w5.setCell ⟨w.heap.size, 0, none⟩ (.int .i64 (a : Int))).setCell ⟨w.heap.size, 1, none⟩ (.int .i64 (m : Int)))) := (HBG.out.setCell (p := ⟨w.heap.size, 0, none⟩) (Nat.le_refl _) _).setCell (p := ⟨w.heap.size, 1, none⟩) (Nat.le_refl _) _
        clear hb5 hb25
        have HQ2 : Hid (((w5.setCell ⟨w.heap.size, 0, none⟩ (.int .i64 (a : Int))).setCell ⟨w.heap.size, 1, none⟩ (.int .i64 (m : Int))).cell? ⟨w1.heap.size + 1, 0, none⟩ = some (.int .i64 (m : Int))) := by
          unfold Hid
          rw [World.cell?_setCell_far _ _ _ _ hne2, World.cell?_setCell_far _ _ _ _ hne2]
          exact q2
        have HQ3 : Hid (((w5.setCell ⟨w.heap.size, 0, none⟩ (.int .i64 (a : Int))).setCell ⟨w.heap.size, 1, none⟩ (.int .i64 (m : Int))).cell? ⟨w1.heap.size + 1, 1, none⟩ = some (.int .i64 (b : Int))) := by
          unfold Hid
          rw [World.cell?_setCell_far _ _ _ _ hne2, World.cell?_setCell_far _ _ _ _ hne2]
          exact q3
        have HSZ : Hid (w1.heap.size + 1 < ((w5.setCell ⟨w.heap.size, 0, none⟩ (.int .i64 (a : Int))).setCell ⟨w.heap.size, 1, none⟩ (.int .i64 (m : Int))).heap.size) := heap_lt HQ2.out
        go_wp2_with fail
        generalize (w5.setCell ⟨w.heap.size, 0, none⟩ (.int .i64 (a : Int))).setCell ⟨w.heap.size, 1, none⟩ (.int .i64 (m : Int)) = W6 at *
        have hla := lacks_any a m (x0 : Int) W6
        unfold gk at hla
        by_cases hxm : x0 < m
        · rw [show (decide ((x0 : Int) < (a : Int)) || decide ((m : Int) ≤ (x0 : Int))) = false by simp; omega] at hla
          refine hla.mono ?_
          clear hla
          rintro e w7 ⟨rfl, hb7⟩
          have HE : Hid (PSt q n N psA psB rowsA nodesA rowsB nodesB MA MB w a m w7) := ⟨HNR.out.of_block (hb7.block _ HNR.out.lt), HNB.out.trans (hb7.mono HNB.out.size), HA1.out, HB1.out, HSUB.out.1⟩
          clear hb7 q0 q1 q2 q3 z0 z1 y0 y1
          have hmd7 : Hid (mdG w.heap.size w7 < mdG w.heap.size wr) := by
            have u0 := HE.out.row.cell (i := 0) (by omega)
            have u1 := HE.out.row.cell (i := 1) (by omega)
            simp only [duo] at u0 u1
            unfold Hid
            rw [HMD.out, mdG_eq u0 u1]
            omega
          go_wp2_with fail
          go_roundw
          case rel => exact ⟨_, _, _, _, _, _, _, _, _, _, _, _, _, _, _, _, _, _, _, _, _, _, _, _, _, _, _, _, _, _, _, _, _, _, _, _, ⟨a, m, ha, hxm, by omega, HE⟩, rfl⟩
          case measure => exact hmd7.out
        · rw [show (decide ((x0 : Int) < (a : Int)) || decide ((m : Int) ≤ (x0 : Int))) = true by simp; omega] at hla
          refine hla.mono ?_
          clear hla
          rintro e w7 ⟨rfl, hb7⟩
          have HR7 := hid (HNR.out.of_block (hb7.block _ HNR.out.lt))
          have z0' := HR7.out.cell (i := 0) (by omega)
          have z1' := HR7.out.cell (i := 1) (by omega)
          have y0' := HR7.out.frozen 0
          have y1' := HR7.out.frozen 1
          have q2' := (hb7.cell (p := ⟨w1.heap.size + 1, 0, none⟩) HSZ.out).trans HQ2.out
          have q3' := (hb7.cell (p := ⟨w1.heap.size + 1, 1, none⟩) HSZ.out).trans HQ3.out
          have HE : Hid (PSt q n N psA psB rowsA nodesA rowsB nodesB MA MB w m b ((w7.setCell ⟨w.heap.size, 0, none⟩ (.int .i64 (m : Int))).setCell ⟨w.heap.size, 1, none⟩ (.int .i64 (b : Int)))) := ⟨duo_set1 (duo_set0 HR7.out (.int .i64 (m : Int))) (.int .i64 (b : Int)), ((HNB.out.trans (hb7.mono HNB.out.size)).setCell (p := ⟨w.heap.size, 0, none⟩) (Nat.le_refl _) _).setCell (p := ⟨w.heap.size, 1, none⟩) (Nat.le_refl _) _, HA2.out, HB2.out, HSUB.out.2⟩
          clear hb7 q0 q1 q2 q3 z0 z1 y0 y1
          have hmd7 : Hid (mdG w.heap.size ((w7.setCell ⟨w.heap.size, 0, none⟩ (.int .i64 (m : Int))).setCell ⟨w.heap.size, 1, none⟩ (.int .i64 (b : Int))) < mdG w.heap.size wr) := by
            have u0 := HE.out.row.cell (i := 0) (by omega)
            have u1 := HE.out.row.cell (i := 1) (by omega)
            simp only [duo] at u0 u1
            unfold Hid
            rw [HMD.out, mdG_eq u0 u1]
            omega
          go_wp2_with fail
          go_roundw
          case rel => exact ⟨_, _, _, _, _, _, _, _, _, _, _, _, _, _, _, _, _, _, _, _, _, _, _, _, _, _, _, _, _, _, _, _, _, _, _, _, ⟨m, b, by omega, hb, hbN, HE⟩, rfl⟩
          case measure => exact hmd7.out
      · rw [decide_eq_false hab] at HEQ
        have HCL : Hid (Clash q n LA LB) := by
          refine ⟨hab, by rw [HLA.out]; exact pair_red h3 (HDA.out _ _) (HDA.out _ _), by rw [HLB.out]; exact pair_red h3 (HDB.out _ _) (HDB.out _ _), ?_, ?_, ?_, by have := HAL.out; omega, by have := HBL.out; omega⟩
          · rw [HLA.out, HLB.out, ← HEA.out, ← HEB.out]
            exact hC.out.same
          · rw [HLA.out]; exact fits_cons (by omega) (fits_append ((HDA.out _ _).fits hq) ((HDA.out _ _).fits hq))
          · rw [HLB.out]; exact fits_cons (by omega) (fits_append ((HDB.out _ _).fits hq) ((HDB.out _ _).fits hq))
        have HX : Hid (∀ w5, Below w'.heap.size w' w5 → PartR q n w (.returned (.tuple #[.slice aa 9 ca, .slice ab 9 cb])) w5) := fun w5 h =>
          ⟨_, _, LA, LB, rfl, HLSA.out.keep h, HLSB.out.keep h, HCL.out, (HBW2.out.trans (HBV2.out.mono HBW2.out.size)).trans (h.mono (by have := HBW2.out.size; have := HBV2.out.size; omega))⟩
        clear hab HCL
        go_wp2_with fail
        refine HEQ.out.mono ?_
        rintro e w5 ⟨rfl, hb5⟩
        have HX5 := hid (HX.out w5 hb5)
        clear hb5 HX
        go_wp2_with fail
        go_ret2
        exact HX5.out
    · have hnot : ¬ (1 : Int) < (b : Int) - (a : Int) := by omega
      have hae : a = x0 := by omega
      have hbe : b = x0 + 1 := by omega
      have HX : Hid (PartR q n w (.returned (.tuple #[vX, vY])) wr) := by
        have hs := hC.out.same
        rw [hae, hbe] at hs
        refine ⟨vX, vY, X, Y, rfl, ?_, ?_, HEN.out hs, hC.out.below⟩
        · exact HXX.out.keep hC.out.below
        · exact HYY.out.keep hC.out.below
      clear hC hae hbe h2
      go_wp2_with fail
      go_ret2
      exact HX.out

end Go.Proofs.Ytionbilheeheaaf
