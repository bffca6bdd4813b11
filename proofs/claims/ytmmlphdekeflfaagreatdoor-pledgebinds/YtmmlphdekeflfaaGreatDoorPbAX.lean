/- Package pledge: Check, where it says no at once. Trees: on the way down to a place. Plain. Package tree: parting. slices.BinarySearch of any ascending list; what Collide answers. -/
import Derived.Test.YtmmlphdekeflfaaGreatDoorPgL
import Derived.Test.YtmmlphdekeflfaaGreatDoorPbAW
import Derived.Test.YtmmlphdekeflfaaGreatDoorPbAM
namespace Go.Proofs.YtmmlphdekeflfaaGreatDoor
open Go.RowKit

/-- what pledge.Check asks of sizes -/
def PlK (N : Nat) (v a : Int) (n4 n1 n2 n3 : Nat) : Prop := ∃ v' : Nat, v = (v' : Int) ∧ v' ≤ 12 ∧ 2 ^ (v' - v' / 2) ≤ N / 2 ∧ n4 = v' ∧ (1 ≤ a ∧ a ≤ 64) ∧ n1 = 4 ∧ n2 = 2 ^ (v' - v' / 2) ∧ n3 = 2 ^ (v' - v' / 2)

set_option maxRecDepth 100000 in
set_option maxHeartbeats 4000000 in
theorem pcheck_no (b d N c s : Nat) (v a : Int) (r t : Int) (a1 a2 a3 a4 : Option Addr) (c1 c2 c3 c4 n1 n2 n3 n4 : Nat) (x4 x5 x6 : Value) (w : World) (hd : DomAt w d b (N : Int) r t) (hN : N ≤ 65536) (hno : ¬ PlK N v a n4 n1 n2 n3) :
    Calls Tryz.prog 25 #[.pointer (some ⟨s, 0, none⟩), .pointer (some ⟨c, 0, none⟩), .pointer (some ⟨d, 0, none⟩), .int .i64 v, .slice a4 n4 c4, .int .i64 a, .agg #[.slice a1 n1 c1, .slice a2 n2 c2, .slice a3 n3 c3, x4, x5, x6]] w fun e w' => e = .returned (.tuple #[.int .i64 0, .bool false]) ∧ Below w.heap.size w w' := by
  obtain ⟨W0, hW0⟩ : ∃ W0, W0 = w.alloc (.cells #[.slice a1 n1 c1, .slice a2 n2 c2, .slice a3 n3 c3, x4, x5, x6] 51) := ⟨_, rfl⟩
  obtain ⟨P, hPP⟩ : ∃ P, P = w.heap.size := ⟨_, rfl⟩
  have hb0 : Below w.heap.size w W0 := by rw [hW0]; exact (Below.refl _ _).alloc (Nat.le_refl _) _
  have hs0 : W0.heap[P]? = some (.cells #[.slice a1 n1 c1, .slice a2 n2 c2, .slice a3 n3 c3, x4, x5, x6] 51 (0, 0)) := by rw [hW0, hPP]; exact heap_alloc_new w _
  have hd0 := hd.below hb0 hd.lt
  have HB0 := hid hb0
  have HS0 := hid hs0
  by_cases h12 : v < 0 ∨ 12 < v
  · have HNS := hid (newShape_no d v W0 h12)
    clear hd hd0 hb0 hs0 hno h12 HS0
    go_enter Tryz.func25, Tryz.ntmps25
    go_wp2_with fail
    rw [← hW0]
    clear hW0
    refine HNS.out.mono ?_
    rintro e w1 ⟨rfl, hb1⟩
    have HBE : Hid (Below w.heap.size w (w1.alloc (.cells #[.pointer none, .pointer none, .int .i64 0, .int .i64 0] 92))) := (HB0.out.trans (hb1.mono HB0.out.size)).alloc (Nat.le_trans HB0.out.size hb1.size) _
    clear hb1 HNS
    go_wp2_with fail
    go_ret2
    exact ⟨rfl, HBE.out⟩
  · obtain ⟨v', rfl⟩ := Int.eq_ofNat_of_zero_le (show 0 ≤ v by omega)
    have hv : v' ≤ 12 := by omega
    have HNS := hid (newShape_yes d b v' N r t W0 hd0 hv hN)
    obtain ⟨lo, hlo⟩ : ∃ lo, lo = v' - v' / 2 := ⟨_, rfl⟩
    obtain ⟨hi, hhi⟩ : ∃ hi, hi = v' / 2 := ⟨_, rfl⟩
    have hlo12 : lo ≤ 12 := by omega
    have hsv : shV b d v' = .agg #[.pointer (some ⟨b, 0, none⟩), .pointer (some ⟨d, 0, none⟩), .int .i64 (hi : Int), .int .i64 (lo : Int)] := by unfold shV; rw [hlo, hhi]
    rw [hsv, ← hlo] at HNS
    have HIT := hid (fun W => isTold_any n1 n2 n3 c1 c2 c3 lo a1 a2 a3 (.pointer (some ⟨b, 0, none⟩)) (.pointer (some ⟨d, 0, none⟩)) x4 x5 x6 (hi : Int) W hlo12)
    have HMA := hid (fun W => mayAsk_any a W)
    obtain ⟨T1, hT1⟩ : ∃ T1, T1 = decide (2 ^ lo ≤ N / 2) := ⟨_, rfl⟩
    obtain ⟨T2, hT2⟩ : ∃ T2, T2 = decide (1 ≤ a ∧ a ≤ 64) := ⟨_, rfl⟩
    obtain ⟨T3, hT3⟩ : ∃ T3, T3 = decide (n1 = 4 ∧ n2 = 2 ^ lo ∧ n3 = 2 ^ lo) := ⟨_, rfl⟩
    rw [← hT1] at HNS
    rw [← hT2] at HMA
    rw [← hT3] at HIT
    have HNO : Hid (T1 = true → n4 = v' → T2 = true → T3 = true → False) := fun k1 k2 k3 k4 => by
      rw [hT1] at k1
      rw [hT2] at k3
      rw [hT3] at k4
      have q1 := of_decide_eq_true k1
      have q3 := of_decide_eq_true k3
      have q4 := of_decide_eq_true k4
      rw [hlo] at q1 q4
      exact hno ⟨v', rfl, hv, q1, k2, q3, q4.1, q4.2.1, q4.2.2⟩
    have HSX : Hid (∀ (W1 W : World), Below W0.heap.size W0 W1 → Below (W1.alloc (.cells #[.pointer (some ⟨b, 0, none⟩), .pointer (some ⟨d, 0, none⟩), .int .i64 (hi : Int), .int .i64 (lo : Int)] 92)).heap.size (W1.alloc (.cells #[.pointer (some ⟨b, 0, none⟩), .pointer (some ⟨d, 0, none⟩), .int .i64 (hi : Int), .int .i64 (lo : Int)] 92)) W → (W.cell? ⟨W1.heap.size, 0, none⟩ = some (.pointer (some ⟨b, 0, none⟩)) ∧ W.cell? ⟨W1.heap.size, 1, none⟩ = some (.pointer (some ⟨d, 0, none⟩)) ∧ W.cell? ⟨W1.heap.size, 2, none⟩ = some (.int .i64 (hi : Int)) ∧ W.cell? ⟨W1.heap.size, 3, none⟩ = some (.int .i64 (lo : Int)) ∧ W.cell? ⟨P, 0, none⟩ = some (.slice a1 n1 c1) ∧ W.cell? ⟨P, 1, none⟩ = some (.slice a2 n2 c2) ∧ W.cell? ⟨P, 2, none⟩ = some (.slice a3 n3 c3) ∧ W.cell? ⟨P, 3, none⟩ = some x4 ∧ W.cell? ⟨P, 4, none⟩ = some x5 ∧ W.cell? ⟨P, 5, none⟩ = some x6) ∧ Below w.heap.size w W) := fun W1 W h1 h2 => by
      have e0 := heap_alloc_new W1 (.cells #[.pointer (some ⟨b, 0, none⟩), .pointer (some ⟨d, 0, none⟩), .int .i64 (hi : Int), .int .i64 (lo : Int)] 92)
      have hba : Below W1.heap.size W1 (W1.alloc (.cells #[.pointer (some ⟨b, 0, none⟩), .pointer (some ⟨d, 0, none⟩), .int .i64 (hi : Int), .int .i64 (lo : Int)] 92)) := (Below.refl _ _).alloc (Nat.le_refl _) _
      generalize W1.alloc (.cells #[.pointer (some ⟨b, 0, none⟩), .pointer (some ⟨d, 0, none⟩), .int .i64 (hi : Int), .int .i64 (lo : Int)] 92) = W2 at *
      have e1 := (h2.block _ (Array.getElem?_eq_some_iff.1 e0).1).trans e0
      have eP := (h1.block P (Array.getElem?_eq_some_iff.1 HS0.out).1).trans HS0.out
      have eP2 := (hba.block P (Array.getElem?_eq_some_iff.1 eP).1).trans eP
      have e2 := (h2.block P (Array.getElem?_eq_some_iff.1 eP2).1).trans eP2
      refine ⟨⟨?_, ?_, ?_, ?_, ?_, ?_, ?_, ?_, ?_, ?_⟩, ((HB0.out.trans (h1.mono HB0.out.size)).trans (hba.mono (Nat.le_trans HB0.out.size h1.size))).trans (h2.mono (Nat.le_trans (Nat.le_trans HB0.out.size h1.size) hba.size))⟩ <;> simp [World.cell?, e1, e2]
    clear hd hd0 hb0 hs0 hno h12 hT1 hT2 hT3 hsv hlo hhi
    go_enter Tryz.func25, Tryz.ntmps25
    go_wp2_with fail
    rw [← hW0, ← hPP]
    clear hW0 hPP
    refine HNS.out.mono ?_
    rintro e w1 ⟨rfl, hb1⟩
    have HX := hid (fun W => HSX.out w1 W hb1)
    clear HSX HNS hb1
    obtain ⟨⟨g0, g1, g2, g3, p0, p1, p2, p3, p4, p5⟩, hbe⟩ := HX.out _ (Below.refl _ _)
    have HBE := hid hbe
    clear hbe
    cases T1 with
    | false =>
      go_wp2_with fail
      go_ret2
      exact ⟨rfl, HBE.out⟩
    | true =>
      by_cases h4 : n4 = v'
      · have k4 : ((n4 : Int) != (v' : Int)) = false := by rw [h4]; simp
        cases T2 with
        | false =>
          go_wp2_with fail
          refine (HMA.out _).mono ?_
          rintro e w2 ⟨rfl, rfl⟩
          go_wp2_with fail
          go_ret2
          exact ⟨rfl, HBE.out⟩
        | true =>
          cases T3 with
          | true => exact (HNO.out rfl h4 rfl rfl).elim
          | false =>
            subst h4
            go_wp2_with fail
            refine (HMA.out _).mono ?_
            rintro e w2 ⟨rfl, hw2⟩
            have hw2' := hw2.symm
            subst hw2'
            clear hw2
            go_wp2_with fail
            refine (HIT.out _).mono ?_
            rintro e w3 ⟨rfl, hb3⟩
            have HB3 := hid (HX.out w3 hb3).2
            clear hb3
            go_wp2_with fail
            go_ret2
            exact ⟨rfl, HB3.out⟩
      · have k4 : ((n4 : Int) != (v' : Int)) = true := by simp; omega
        have k5 : ¬ (n4 : Int) = (v' : Int) := by omega
        go_wp2_with fail
        go_ret2
        exact ⟨rfl, HBE.out⟩

end Go.Proofs.YtmmlphdekeflfaaGreatDoor

namespace Go.Proofs.YtmmlphdekeflfaaGreatDoor
open Go.RowKit

/-- two lists, unlike as elements, with one digest -/
def Clash (q n : Nat) (U V : List Int) : Prop := U ≠ V ∧ elr q U = U ∧ elr q V = V ∧ digl q n U = digl q n V ∧ Fits U ∧ Fits V ∧ U.length ≤ 17592186044001 ∧ V.length ≤ 17592186044001

/-- what holds of a group on the way down in one walk -/
structure Way (q n N : Nat) (ps : List Int) (rows nodes : List (List Int)) (M' : Nat → Nat → Option (List Int)) (a b : Nat) : Prop where
  rd : Rd q n (M0 q n N ps rows nodes) a b (DV q n (M0 q n N ps rows nodes) a b)
  found : M' a b ≠ none

theorem Way.down {q n N : Nat} {ps : List Int} {rows nodes : List (List Int)} {M' : Nat → Nat → Option (List Int)} {a b j : Nat} (h : Way q n N ps rows nodes M' a b) (h1 : 1 ≤ N) (hj : j < ps.length) (ha : (a : Int) ≤ zat ps j) (hb : zat ps j < (b : Int)) (h2 : 2 ≤ b - a)
    (hcl : ClM (M0 q n N ps rows nodes) M') : Way q n N ps rows nodes M' a (a + lft (b - a)) ∧ Way q n N ps rows nodes M' (a + lft (b - a)) b ∧ DV q n (M0 q n N ps rows nodes) a b = digl q n (1 :: (DV q n (M0 q n N ps rows nodes) a (a + lft (b - a)) ++ DV q n (M0 q n N ps rows nodes) (a + lft (b - a)) b)) := by
  have hno : M0 q n N ps rows nodes a b = none := M0_none h1 h2 (smb_iff.2 ⟨j, hj, ha, hb⟩)
  have hr := h.rd
  generalize hD : DV q n (M0 q n N ps rows nodes) a b = D at hr
  cases hr with
  | found e => rw [hno] at e; cases e
  | node _ _ r1 r2 =>
    rcases hcl a b h.found with hc | ⟨_, c1, c2⟩
    · exact absurd hno hc
    · refine ⟨⟨by rw [DV_eq r1]; exact r1, c1⟩, ⟨by rw [DV_eq r2]; exact r2, c2⟩, ?_⟩
      rw [DV_eq r1, DV_eq r2]

end Go.Proofs.YtmmlphdekeflfaaGreatDoor

namespace Go.Proofs.YtmmlphdekeflfaaGreatDoor
open Go.RowKit

/-- a list, as a value -/
def LstV (W : World) (v : Value) (U : List Int) : Prop := ∃ a c, v = .slice a U.length c ∧ Lst W.heap.size W a c U
theorem LstV.keep {W W' : World} {v : Value} {U : List Int} (h : LstV W v U) (hb : Below W.heap.size W W') : LstV W' v U := by
  obtain ⟨a, c, rfl, hl⟩ := h
  exact ⟨a, c, rfl, (hl.below hb).mono hb.size⟩
theorem LstV.of {W : World} {base : Nat} {v : Value} {U : List Int} (h : W.ownsRow base 3 1 v U.length (U.map (Value.int .i64))) : LstV W v U := by
  obtain ⟨a, c, rfl, hl⟩ := lst_of_owns h
  exact ⟨a, c, rfl, hl⟩
/-- how far it is down to a place -/
def mdG (G : Nat) (W : World) : Nat := (intOf ((W.cell? ⟨G, 1, none⟩).getD undef)).toNat - (intOf ((W.cell? ⟨G, 0, none⟩).getD undef)).toNat
theorem mdG_eq {G a b : Nat} {W : World} (h0 : W.cell? ⟨G, 0, none⟩ = some (.int .i64 (a : Int))) (h1 : W.cell? ⟨G, 1, none⟩ = some (.int .i64 (b : Int))) : mdG G W = b - a := by
  unfold mdG
  rw [h0, h1]
  simp [intOf]
theorem pair_red {q : Nat} (h3 : 3 ≤ q) {D1 D2 : List Int} (h1 : Dgst q D1) (h2 : Dgst q D2) : elr q (1 :: (D1 ++ D2)) = 1 :: (D1 ++ D2) := by
  have e : ∀ {D : List Int}, Dgst q D → D.map (· % (q : Int)) = D := fun {D} h => by
    apply List.ext_getElem (by simp)
    intro i h1 h2
    have := h.2 i (by rw [← h.1]; exact h2)
    simp only [List.getElem_map]
    simp only [zat, List.getElem?_eq_getElem h2, Option.getD_some] at this
    exact Int.emod_eq_of_lt this.1 this.2
  rw [elr_map, List.map_cons, List.map_append, e h1, e h2, Int.emod_eq_of_lt (by omega) (by omega)]
/-- what parting answers -/
def PartR (q n : Nat) (w : World) (e : Ending) (w' : World) : Prop := ∃ v1 v2 U V, e = .returned (.tuple #[v1, v2]) ∧ LstV w' v1 U ∧ LstV w' v2 V ∧ Clash q n U V ∧ Below w.heap.size w w'

/-- the state of the way down -/
structure PSt (q n N : Nat) (psA psB : List Int) (rowsA nodesA rowsB nodesB : List (List Int)) (MA MB : Nat → Nat → Option (List Int)) (w : World) (a b : Nat) (wr : World) : Prop where
  row : wr.rowIs w.heap.size 135 2 (duo (.int .i64 (a : Int)) (.int .i64 (b : Int)))
  below : Below w.heap.size w wr
  wayA : Way q n N psA rowsA nodesA MA a b
  wayB : Way q n N psB rowsB nodesB MB a b
  same : DV q n (M0 q n N psA rowsA nodesA) a b = DV q n (M0 q n N psB rowsB nodesB) a b

set_option maxRecDepth 100000 in
set_option maxHeartbeats 4000000 in
theorem parting_any (q n N s g1 B1 g2 B2 x0 jA jB : Nat) (psA psB : List Int) (rowsA nodesA rowsB nodesB : List (List Int)) (MA MB : Nat → Nat → Option (List Int)) (X Y : List Int) (vX vY : Value) (w : World) (h3 : 3 ≤ q) (hq : q ≤ 2147483647) (h1 : 1 ≤ N) (hN : N ≤ 65536)
    (hDA : ∀ a b, Dgst q (DV q n (M0 q n N psA rowsA nodesA) a b)) (hDB : ∀ a b, Dgst q (DV q n (M0 q n N psB rowsB nodesB) a b)) (hjA : jA < psA.length) (hzA : zat psA jA = (x0 : Int)) (hjB : jB < psB.length) (hzB : zat psB jB = (x0 : Int)) (hx0 : x0 < N)
    (hw1 : WlkAt w g1 B1 s) (hm1 : MapIs w B1 MA) (hs1 : Snd MA (DV q n (M0 q n N psA rowsA nodesA))) (hc1 : ClM (M0 q n N psA rowsA nodesA) MA) (hw2 : WlkAt w g2 B2 s) (hm2 : MapIs w B2 MB) (hs2 : Snd MB (DV q n (M0 q n N psB rowsB nodesB))) (hc2 : ClM (M0 q n N psB rowsB nodesB) MB)
    (hA : Way q n N psA rowsA nodesA MA 0 N) (hB : Way q n N psB rowsB nodesB MB 0 N) (hsame : DV q n (M0 q n N psA rowsA nodesA) 0 N = DV q n (M0 q n N psB rowsB nodesB) 0 N)
    (hX : LstV w vX X) (hY : LstV w vY Y) (hend : DV q n (M0 q n N psA rowsA nodesA) x0 (x0 + 1) = DV q n (M0 q n N psB rowsB nodesB) x0 (x0 + 1) → Clash q n X Y) :
    Calls Tryz.prog 79 #[.pointer (some ⟨g1, 0, none⟩), .pointer (some ⟨g2, 0, none⟩), gk 0 N, .int .i64 (x0 : Int), vX, vY] w (PartR q n w) := by
  unfold gk
  have hmx : Tryz.prog.follows .mixedOrders = true := by kernel_rfl
  have HST : Hid (PSt q n N psA psB rowsA nodesA rowsB nodesB MA MB w 0 N (w.alloc (.cells #[.int .i64 ((0 : Nat) : Int), .int .i64 (N : Int)] 135))) := ⟨duo_new w _ _ _, (Below.refl _ _).alloc (Nat.le_refl _) _, hA, hB, hsame⟩
  have HDA := hid hDA
  have HDB := hid hDB
  have HXX := hid hX
  have HYY := hid hY
  have HEN := hid hend
  have HM1 := hid hm1
  have HM2 := hid hm2
  have HW1 := hid hw1
  have HW2 := hid hw2
  have HS1 := hid hs1
  have HS2 := hid hs2
  have HC1 := hid hc1
  have HC2 := hid hc2
  have HzA := hid hzA
  have HzB := hid hzB
  clear hDA hDB hX hY hend hm1 hm2 hw1 hw2 hs1 hs2 hc1 hc2 hA hB hsame hzA hzB
  go_enter Tryz.func79, Tryz.ntmps79
  go_wp2_with fail
  go_loopw [14] (fun _ wr => ∃ a b : Nat, a ≤ x0 ∧ x0 < b ∧ b ≤ N ∧ Hid (PSt q n N psA psB rowsA nodesA rowsB nodesB MA MB w a b wr)) (fun _ wr => mdG w.heap.size wr)
  case atStart => exact ⟨0, N, Nat.zero_le _, hx0, Nat.le_refl _, HST.out⟩
  case round =>
    obtain ⟨a, b, ha, hb, hbN, hC⟩ := hrel
    have k0 := hC.out.row.cell (i := 0) (by omega)
    have k1 := hC.out.row.cell (i := 1) (by omega)
    simp only [duo] at k0 k1
    have hmd := mdG_eq k0 k1
    have HMD := hid hmd
    clear hmd
    by_cases h2 : 2 ≤ b - a
    · have h22 : (1 : Int) < (b : Int) - (a : Int) := by omega
      obtain ⟨l1, l2, l3⟩ := lft_spec (b - a)
      have l3' := l3 h2
      obtain ⟨m, hm⟩ : ∃ m, m = a + lft (b - a) := ⟨_, rfl⟩
      obtain ⟨wA1, wA2, eA⟩ := hC.out.wayA.down h1 hjA (by rw [HzA.out]; omega) (by rw [HzA.out]; omega) h2 HC1.out
      obtain ⟨wB1, wB2, eB⟩ := hC.out.wayB.down h1 hjB (by rw [HzB.out]; omega) (by rw [HzB.out]; omega) h2 HC2.out
      rw [← hm] at wA1 wA2 eA wB1 wB2 eB
      have hmab : a < m ∧ m < b := by omega
      have HPT : Hid (∀ W, Calls Tryz.prog 143 #[.agg #[.int .i64 (a : Int), .int .i64 (b : Int)]] W fun e w' => e = .returned (.tuple #[.agg #[.int .i64 (a : Int), .int .i64 (m : Int)], .agg #[.int .i64 (m : Int), .int .i64 (b : Int)]]) ∧ Below W.heap.size W w') := fun W => by rw [hm]; exact parts_any a b (b - a) (by omega) (by omega) W
      have HA1 := hid wA1
      have HA2 := hid wA2
      have HB1 := hid wB1
      have HB2 := hid wB2
      have HEA := hid eA
      have HEB := hid eB
      have HLE : Hid (m ≤ 1000000 ∧ b ≤ 1000000 ∧ a ≤ 1000000) := by unfold Hid; omega
      clear hm l1 l2 l3 l3' wA1 wA2 wB1 wB2 eA eB
      go_wp2_with fail
      refine (HPT.out wr).mono ?_
      rintro e w1 ⟨rfl, hb1⟩
      have HBW1 := hid (hC.out.below.trans (hb1.mono hC.out.below.size))
      have HR1 := hid (hC.out.row.of_block (hb1.block _ hC.out.row.lt))
      clear hb1
      go_wp2_with fail
      have HLc := hid ((duo_new w1 135 (.int .i64 (a : Int)) (.int .i64 (m : Int))).alloc (.cells #[.int .i64 (m : Int), .int .i64 (b : Int)] 135))
      have HRc : Hid (((w1.alloc (.cells #[.int .i64 (a : Int), .int .i64 (m : Int)] 135)).alloc (.cells #[.int .i64 (m : Int), .int .i64 (b : Int)] 135)).rowIs (w1.heap.size + 1) 135 2 (duo (.int .i64 (m : Int)) (.int .i64 (b : Int)))) := by
        have := duo_new (w1.alloc (.cells #[.int .i64 (a : Int), .int .i64 (m : Int)] 135)) 135 (.int .i64 (m : Int)) (.int .i64 (b : Int))
        rwa [show (w1.alloc (.cells #[.int .i64 (a : Int), .int .i64 (m : Int)] 135)).heap.size = w1.heap.size + 1 from by simp] at this
      have HB2W : Hid (Below w1.heap.size w1 ((w1.alloc (.cells #[.int .i64 (a : Int), .int .i64 (m : Int)] 135)).alloc (.cells #[.int .i64 (m : Int), .int .i64 (b : Int)] 135))) := ((Below.refl _ _).alloc (Nat.le_refl _) _).alloc (by simp) _
      have HRW := hid (HR1.out.of_block (HB2W.out.block _ HR1.out.lt))
      have HBW2 := hid (HBW1.out.trans (HB2W.out.mono HBW1.out.size))
      have hG1 : w.heap.size < w1.heap.size := HR1.out.lt
      generalize (w1.alloc (.cells #[.int .i64 (a : Int), .int .i64 (m : Int)] 135)).alloc (.cells #[.int .i64 (m : Int), .int .i64 (b : Int)] 135) = W2 at *
      have HKe : Hid (∀ W, Below W2.heap.size W2 W → W.cell? ⟨w1.heap.size, 0, none⟩ = some (.int .i64 (a : Int)) ∧ W.cell? ⟨w1.heap.size, 1, none⟩ = some (.int .i64 (m : Int)) ∧ W.cell? ⟨w1.heap.size + 1, 0, none⟩ = some (.int .i64 (m : Int)) ∧ W.cell? ⟨w1.heap.size + 1, 1, none⟩ = some (.int .i64 (b : Int))) := fun W h =>
        ⟨(h.cell (p := ⟨w1.heap.size, 0, none⟩) HLc.out.lt).trans (HLc.out.cell (i := 0) (by omega)), (h.cell (p := ⟨w1.heap.size, 1, none⟩) HLc.out.lt).trans (HLc.out.cell (i := 1) (by omega)), (h.cell (p := ⟨w1.heap.size + 1, 0, none⟩) HRc.out.lt).trans (HRc.out.cell (i := 0) (by omega)), (h.cell (p := ⟨w1.heap.size + 1, 1, none⟩) HRc.out.lt).trans (HRc.out.cell (i := 1) (by omega))⟩
      obtain ⟨LA, hLA⟩ : ∃ LA, LA = 1 :: (DV q n (M0 q n N psA rowsA nodesA) a m ++ DV q n (M0 q n N psA rowsA nodesA) m b) := ⟨_, rfl⟩
      obtain ⟨LB, hLB⟩ : ∃ LB, LB = 1 :: (DV q n (M0 q n N psB rowsB nodesB) a m ++ DV q n (M0 q n N psB rowsB nodesB) m b) := ⟨_, rfl⟩
      have hAl : LA.length = 9 := by rw [hLA, List.length_cons, List.length_append, (HDA.out _ _).1, (HDA.out _ _).1]
      have hBl : LB.length = 9 := by rw [hLB, List.length_cons, List.length_append, (HDB.out _ _).1, (HDB.out _ _).1]
      have HP1 : Hid (∀ W, Below W2.heap.size W2 W → Calls Tryz.prog 144 #[.pointer (some ⟨g1, 0, none⟩), .agg #[.int .i64 (a : Int), .int .i64 (m : Int)], .agg #[.int .i64 (m : Int), .int .i64 (b : Int)]] W fun e w' => ∃ aa ca, e = .returned (.slice aa 9 ca) ∧ Hid (LstV w' (.slice aa 9 ca) LA) ∧ Below W2.heap.size W2 w') := fun W h => by
        have hbw := HBW2.out.trans (h.mono HBW2.out.size)
        obtain ⟨d1, hd1⟩ := Option.ne_none_iff_exists'.1 HA1.out.found
        obtain ⟨d2, hd2⟩ := Option.ne_none_iff_exists'.1 HA2.out.found
        have e1 := HS1.out _ _ _ hd1
        have e2 := HS1.out _ _ _ hd2
        subst e1
        subst e2
        refine (pairlist_any s g1 B1 a m b _ _ MA W (HW1.out.block (hbw.block _ HW1.out.lt)) (HM1.out.below hbw HM1.out.lt) hd1 hd2 (HDA.out _ _).1 (HDA.out _ _).1 (by have := HLE.out; omega) (by have := HLE.out; omega) (by have := HLE.out; omega)).mono ?_
        rintro e w' ⟨v, rfl, ho, hb'⟩
        rw [← hLA] at ho
        obtain ⟨aa, ca, rfl, hl⟩ := LstV.of ho
        rw [hAl]
        exact ⟨aa, ca, rfl, ⟨aa, ca, by rw [hAl], hl⟩, h.trans (hb'.mono h.size)⟩
      have HP2 : Hid (∀ W, Below W2.heap.size W2 W → Calls Tryz.prog 144 #[.pointer (some ⟨g2, 0, none⟩), .agg #[.int .i64 (a : Int), .int .i64 (m : Int)], .agg #[.int .i64 (m : Int), .int .i64 (b : Int)]] W fun e w' => ∃ ab cb, e = .returned (.slice ab 9 cb) ∧ Hid (LstV w' (.slice ab 9 cb) LB) ∧ Below W2.heap.size W2 w' ∧ Hid (Below W.heap.size W w')) := fun W h => by
        have hbw := HBW2.out.trans (h.mono HBW2.out.size)
        obtain ⟨d1, hd1⟩ := Option.ne_none_iff_exists'.1 HB1.out.found
        obtain ⟨d2, hd2⟩ := Option.ne_none_iff_exists'.1 HB2.out.found
        have e1 := HS2.out _ _ _ hd1
        have e2 := HS2.out _ _ _ hd2
        subst e1
        subst e2
        refine (pairlist_any s g2 B2 a m b _ _ MB W (HW2.out.block (hbw.block _ HW2.out.lt)) (HM2.out.below hbw HM2.out.lt) hd1 hd2 (HDB.out _ _).1 (HDB.out _ _).1 (by have := HLE.out; omega) (by have := HLE.out; omega) (by have := HLE.out; omega)).mono ?_
        rintro e w' ⟨v, rfl, ho, hb'⟩
        rw [← hLB] at ho
        obtain ⟨aa, ca, rfl, hl⟩ := LstV.of ho
        rw [hBl]
        exact ⟨aa, ca, rfl, ⟨aa, ca, by rw [hBl], hl⟩, h.trans (hb'.mono h.size), hb'⟩
      have HLA := hid hLA
      have HLB := hid hLB
      have HAL := hid hAl
      have HBL := hid hBl
      clear hLA hLB hAl hBl
      have hb30 : Below W2.heap.size W2 W2.drew := (Below.refl _ _).drew
      have hC0 := HKe.out _ hb30
      clear k0 k1
      refine wp_region_S (C := fun W => W.cell? ⟨w1.heap.size, 0, none⟩ = some (.int .i64 (a : Int)) ∧ W.cell? ⟨w1.heap.size, 1, none⟩ = some (.int .i64 (m : Int)) ∧ W.cell? ⟨w1.heap.size + 1, 0, none⟩ = some (.int .i64 (m : Int)) ∧ W.cell? ⟨w1.heap.size + 1, 1, none⟩ = some (.int .i64 (b : Int))) (st := [9]) hmx ?_
      show wpAnyS _ _ _ _ _ _ 10 (Array.replicate 10 false) _ _
      refine wpAnyS_pure (i := 0) (v := (.pointer (some ⟨g1, 0, none⟩))) rfl (by kernel_rfl) (by kernel_rfl) (by kernel_rfl) (by kernel_rfl) (fun _ _ _ h => h) (Or.inl ⟨by rfl, fun W _ => ?_⟩) (fun _ => hC0) ?_
      · go_simp
      refine wpAnyS_take (i := 1) (v := (.agg #[.int .i64 (a : Int), .int .i64 (m : Int)])) rfl (by kernel_rfl) (by kernel_rfl) (by kernel_rfl) (by kernel_rfl) (by kernel_rfl) (by kernel_rfl) (fun _ _ _ h => h) (Or.inl ⟨by rfl, fun W hC => ?_⟩) hC0 ?_
      · obtain ⟨q0, q1, q2, q3⟩ := hC
        go_simp
      refine wpAnyS_take (i := 2) (v := (.agg #[.int .i64 (m : Int), .int .i64 (b : Int)])) rfl (by kernel_rfl) (by kernel_rfl) (by kernel_rfl) (by kernel_rfl) (by kernel_rfl) (by kernel_rfl) (fun _ _ _ h => h) (Or.inl ⟨by rfl, fun W hC => ?_⟩) hC0 ?_
      · obtain ⟨q0, q1, q2, q3⟩ := hC
        go_simp
      refine wpAnyS_pure (i := 4) (v := (.pointer (some ⟨g2, 0, none⟩))) rfl (by kernel_rfl) (by kernel_rfl) (by kernel_rfl) (by kernel_rfl) (fun _ _ _ h => h) (Or.inl ⟨by rfl, fun W _ => ?_⟩) (fun _ => hC0) ?_
      · go_simp
      refine wpAnyS_take (i := 5) (v := (.agg #[.int .i64 (a : Int), .int .i64 (m : Int)])) rfl (by kernel_rfl) (by kernel_rfl) (by kernel_rfl) (by kernel_rfl) (by kernel_rfl) (by kernel_rfl) (fun _ _ _ h => h) (Or.inl ⟨by rfl, fun W hC => ?_⟩) hC0 ?_
      · obtain ⟨q0, q1, q2, q3⟩ := hC
        go_simp
      refine wpAnyS_take (i := 6) (v := (.agg #[.int .i64 (m : Int), .int .i64 (b : Int)])) rfl (by kernel_rfl) (by kernel_rfl) (by kernel_rfl) (by kernel_rfl) (by kernel_rfl) (by kernel_rfl) (fun _ _ _ h => h) (Or.inl ⟨by rfl, fun W hC => ?_⟩) hC0 ?_
      · obtain ⟨q0, q1, q2, q3⟩ := hC
        go_simp
      refine wpAnyS_one (i := 3) (by kernel_rfl) ?_
      refine wpOp_step rfl (fun K' hK' => ?_)
      rw [if_pos (by rfl)]
      go_simp
      refine (HP1.out _ hb30).mono ?_
      rintro e w' ⟨aa, ca, rfl, hoa, hbv1⟩
      refine hK' _ _ ⟨fun _ => HKe.out _ hbv1, ?_⟩
      clear hK' K'
      refine wpAnyS_one (i := 7) (by kernel_rfl) ?_
      refine wpOp_step rfl (fun K' hK' => ?_)
      rw [if_pos (by rfl)]
      go_simp
      refine (HP2.out _ hbv1).mono ?_
      rintro e w' ⟨ab, cb, rfl, hob, hbv2, hkeep⟩
      refine hK' _ _ ⟨fun _ => HKe.out _ hbv2, ?_⟩
      clear hK' K'
      refine wpAnyS_one (i := 8) (by kernel_rfl) ?_
      refine wpOp_step rfl (fun K' hK' => ?_)
      rw [if_pos (by rfl)]
      go_simp
      refine hK' _ _ ⟨fun _ => HKe.out _ hbv2, ?_⟩
      clear hK' K'
      refine wpAnyS_one (i := 9) (by kernel_rfl) ?_
      refine wpOp_step rfl (fun K' hK' => ?_)
      rw [if_pos (by rfl)]
      go_simp
      refine hK' _ _ ⟨fun h => absurd (h 9 (by simp)) (by decide), ?_⟩
      clear hK' K'
      refine wpAnyS_done (by kernel_rfl) ?_ _
      have HLSA := hid (hoa.out.keep hkeep.out)
      have HLSB := hid hob.out
      have HEQ : Hid (Calls Tryz.prog 78 #[.slice aa 9 ca, .slice ab 9 cb] w' fun e w'' => e = .returned (.bool (decide (LA = LB))) ∧ Below w'.heap.size w' w'') := by
        obtain ⟨a1, c1, e1, hl1⟩ := HLSA.out
        obtain ⟨a2, c2, e2, hl2⟩ := HLSB.out
        rw [HAL.out] at e1
        rw [HBL.out] at e2
        cases e1
        cases e2
        have := equal_any ca cb aa ab LA LB w' (by have := HAL.out; omega) hl1.row hl2.row
        rw [HAL.out, HBL.out] at this
        exact this
      have HBV2 := hid hbv2
      clear hoa hob hkeep hbv1 hb30 hC0 HP1 HP2 hbv2
      by_cases hab : LA = LB
      · rw [decide_eq_true hab] at HEQ
        have hsub : DV q n (M0 q n N psA rowsA nodesA) a m = DV q n (M0 q n N psB rowsB nodesB) a m ∧ DV q n (M0 q n N psA rowsA nodesA) m b = DV q n (M0 q n N psB rowsB nodesB) m b := by
          have := hab
          rw [HLA.out, HLB.out] at this
          exact List.append_inj (List.cons.inj this).2 (by rw [(HDA.out _ _).1, (HDB.out _ _).1])
        have HSUB := hid hsub
        clear hab hsub
        go_wp2_with fail
        refine HEQ.out.mono ?_
        rintro e w5 ⟨rfl, hb5⟩
        have hb25 := HBV2.out.trans (hb5.mono HBV2.out.size)
        obtain ⟨q0, q1, q2, q3⟩ := HKe.out w5 hb25
        have HRG := hid (HRW.out.of_block (hb25.block _ HRW.out.lt))
        have HBG := hid (HBW2.out.trans (hb25.mono HBW2.out.size))
        have z0 := HRG.out.cell (i := 0) (by omega)
        have z1 := HRG.out.cell (i := 1) (by omega)
        have y0 := HRG.out.frozen 0
        have y1 := HRG.out.frozen 1
        have hne1 : w.heap.size ≠ w1.heap.size := by omega
        have hne2 : w.heap.size ≠ w1.heap.size + 1 := by omega
        have HNR := hid (duo_set1 (duo_set0 HRG.out (.int .i64 (a : Int))) (.int .i64 (m : Int)))
        have HNB : Hid (Below w.heap.size w ((w5.setCell ⟨w.heap.size, 0, none⟩ (.int .i64 (a : Int))).setCell ⟨w.heap.size, 1, none⟩ (.int .i64 (m : Int)))) := (HBG.out.setCell (p := ⟨w.heap.size, 0, none⟩) (Nat.le_refl _) _).setCell (p := ⟨w.heap.size, 1, none⟩) (Nat.le_refl _) _
        clear hb5 hb25
        have HQ2 : Hid (((w5.setCell ⟨w.heap.size, 0, none⟩ (.int .i64 (a : Int))).setCell ⟨w.heap.size, 1, none⟩ (.int .i64 (m : Int))).cell? ⟨w1.heap.size + 1, 0, none⟩ = some (.int .i64 (m : Int))) := by
          unfold Hid
          rw [World.cell?_setCell_far _ _ _ _ hne2, World.cell?_setCell_far _ _ _ _ hne2]
          exact q2
        have HQ3 : Hid (((w5.setCell ⟨w.heap.size, 0, none⟩ (.int .i64 (a : Int))).setCell ⟨w.heap.size, 1, none⟩ (.int .i64 (m : Int))).cell? ⟨w1.heap.size + 1, 1, none⟩ = some (.int .i64 (b : Int))) := by
          unfold Hid
          rw [World.cell?_setCell_far _ _ _ _ hne2, World.cell?_setCell_far _ _ _ _ hne2]
          exact q3
        have HSZ : Hid (w1.heap.size + 1 < ((w5.setCell ⟨w.heap.size, 0, none⟩ (.int .i64 (a : Int))).setCell ⟨w.heap.size, 1, none⟩ (.int .i64 (m : Int))).heap.size) := heap_lt HQ2.out
        go_wp2_with fail
        generalize (w5.setCell ⟨w.heap.size, 0, none⟩ (.int .i64 (a : Int))).setCell ⟨w.heap.size, 1, none⟩ (.int .i64 (m : Int)) = W6 at *
        have hla := lacks_any a m (x0 : Int) W6
        unfold gk at hla
        by_cases hxm : x0 < m
        · rw [show (decide ((x0 : Int) < (a : Int)) || decide ((m : Int) ≤ (x0 : Int))) = false by simp; omega] at hla
          refine hla.mono ?_
          clear hla
          rintro e w7 ⟨rfl, hb7⟩
          have HE : Hid (PSt q n N psA psB rowsA nodesA rowsB nodesB MA MB w a m w7) := ⟨HNR.out.of_block (hb7.block _ HNR.out.lt), HNB.out.trans (hb7.mono HNB.out.size), HA1.out, HB1.out, HSUB.out.1⟩
          clear hb7 q0 q1 q2 q3 z0 z1 y0 y1
          have hmd7 : Hid (mdG w.heap.size w7 < mdG w.heap.size wr) := by
            have u0 := HE.out.row.cell (i := 0) (by omega)
            have u1 := HE.out.row.cell (i := 1) (by omega)
            simp only [duo] at u0 u1
            unfold Hid
            rw [HMD.out, mdG_eq u0 u1]
            omega
          go_wp2_with fail
          go_roundw
          case rel => exact ⟨_, _, _, _, _, _, _, _, _, _, _, _, _, _, _, _, _, _, _, _, _, _, _, _, _, _, _, _, _, _, _, _, _, _, _, _, ⟨a, m, ha, hxm, by omega, HE⟩, rfl⟩
          case measure => exact hmd7.out
        · rw [show (decide ((x0 : Int) < (a : Int)) || decide ((m : Int) ≤ (x0 : Int))) = true by simp; omega] at hla
          refine hla.mono ?_
          clear hla
          rintro e w7 ⟨rfl, hb7⟩
          have HR7 := hid (HNR.out.of_block (hb7.block _ HNR.out.lt))
          have z0' := HR7.out.cell (i := 0) (by omega)
          have z1' := HR7.out.cell (i := 1) (by omega)
          have y0' := HR7.out.frozen 0
          have y1' := HR7.out.frozen 1
          have q2' := (hb7.cell (p := ⟨w1.heap.size + 1, 0, none⟩) HSZ.out).trans HQ2.out
          have q3' := (hb7.cell (p := ⟨w1.heap.size + 1, 1, none⟩) HSZ.out).trans HQ3.out
          have HE : Hid (PSt q n N psA psB rowsA nodesA rowsB nodesB MA MB w m b ((w7.setCell ⟨w.heap.size, 0, none⟩ (.int .i64 (m : Int))).setCell ⟨w.heap.size, 1, none⟩ (.int .i64 (b : Int)))) := ⟨duo_set1 (duo_set0 HR7.out (.int .i64 (m : Int))) (.int .i64 (b : Int)), ((HNB.out.trans (hb7.mono HNB.out.size)).setCell (p := ⟨w.heap.size, 0, none⟩) (Nat.le_refl _) _).setCell (p := ⟨w.heap.size, 1, none⟩) (Nat.le_refl _) _, HA2.out, HB2.out, HSUB.out.2⟩
          clear hb7 q0 q1 q2 q3 z0 z1 y0 y1
          have hmd7 : Hid (mdG w.heap.size ((w7.setCell ⟨w.heap.size, 0, none⟩ (.int .i64 (m : Int))).setCell ⟨w.heap.size, 1, none⟩ (.int .i64 (b : Int))) < mdG w.heap.size wr) := by
            have u0 := HE.out.row.cell (i := 0) (by omega)
            have u1 := HE.out.row.cell (i := 1) (by omega)
            simp only [duo] at u0 u1
            unfold Hid
            rw [HMD.out, mdG_eq u0 u1]
            omega
          go_wp2_with fail
          go_roundw
          case rel => exact ⟨_, _, _, _, _, _, _, _, _, _, _, _, _, _, _, _, _, _, _, _, _, _, _, _, _, _, _, _, _, _, _, _, _, _, _, _, ⟨m, b, by omega, hb, hbN, HE⟩, rfl⟩
          case measure => exact hmd7.out
      · rw [decide_eq_false hab] at HEQ
        have HCL : Hid (Clash q n LA LB) := by
          refine ⟨hab, by rw [HLA.out]; exact pair_red h3 (HDA.out _ _) (HDA.out _ _), by rw [HLB.out]; exact pair_red h3 (HDB.out _ _) (HDB.out _ _), ?_, ?_, ?_, by have := HAL.out; omega, by have := HBL.out; omega⟩
          · rw [HLA.out, HLB.out, ← HEA.out, ← HEB.out]
            exact hC.out.same
          · rw [HLA.out]; exact fits_cons (by omega) (fits_append ((HDA.out _ _).fits hq) ((HDA.out _ _).fits hq))
          · rw [HLB.out]; exact fits_cons (by omega) (fits_append ((HDB.out _ _).fits hq) ((HDB.out _ _).fits hq))
        have HX : Hid (∀ w5, Below w'.heap.size w' w5 → PartR q n w (.returned (.tuple #[.slice aa 9 ca, .slice ab 9 cb])) w5) := fun w5 h =>
          ⟨_, _, LA, LB, rfl, HLSA.out.keep h, HLSB.out.keep h, HCL.out, (HBW2.out.trans (HBV2.out.mono HBW2.out.size)).trans (h.mono (by have := HBW2.out.size; have := HBV2.out.size; omega))⟩
        clear hab HCL
        go_wp2_with fail
        refine HEQ.out.mono ?_
        rintro e w5 ⟨rfl, hb5⟩
        have HX5 := hid (HX.out w5 hb5)
        clear hb5 HX
        go_wp2_with fail
        go_ret2
        exact HX5.out
    · have hnot : ¬ (1 : Int) < (b : Int) - (a : Int) := by omega
      have hae : a = x0 := by omega
      have hbe : b = x0 + 1 := by omega
      have HX : Hid (PartR q n w (.returned (.tuple #[vX, vY])) wr) := by
        have hs := hC.out.same
        rw [hae, hbe] at hs
        refine ⟨vX, vY, X, Y, rfl, ?_, ?_, HEN.out hs, hC.out.below⟩
        · exact HXX.out.keep hC.out.below
        · exact HYY.out.keep hC.out.below
      clear hC hae hbe h2
      go_wp2_with fail
      go_ret2
      exact HX.out

end Go.Proofs.YtmmlphdekeflfaaGreatDoor

namespace Go.Proofs.YtmmlphdekeflfaaGreatDoor
open Go.RowKit

set_option maxRecDepth 100000 in
set_option maxHeartbeats 1000000 in
theorem search0 (ap : Option Addr) (cap : Nat) (x : Int) (w : World) : Calls Tryz.prog 76 #[.slice ap 0 cap, .int .i64 x] w fun e w' => e = .returned (.tuple #[.int .i64 0, .bool false]) ∧ Below w.heap.size w w' := by
  go_enter Tryz.func76, Tryz.ntmps76
  go_wp2_with fail
  refine wp_loop_rounds 1 ?_
  rw [rounds_succ]
  go_wp2_with fail
  go_ret2
  exact ⟨rfl, Below.refl _ _⟩

theorem asc_at {ps : List Int} (h : Asc ps) {x : Int} (hc : ps.contains x = true) : ps.countP (fun y => decide (y < x)) < ps.length ∧ zat ps (ps.countP (fun y => decide (y < x))) = x := by
  have hmem : x ∈ ps := by simpa using hc
  have hcut := asc_cut ps x h
  have hl : ps.countP (fun y => decide (y < x)) = (ps.filter (fun y => decide (y < x))).length := List.countP_eq_length_filter
  have hmem2 : x ∈ ps.filter (fun y => decide (x ≤ y)) := List.mem_filter.2 ⟨hmem, by simp⟩
  cases hf : ps.filter (fun y => decide (x ≤ y)) with
  | nil => rw [hf] at hmem2; cases hmem2
  | cons z zs =>
    have hz : z = x := by
      have hz1 : x ≤ z := by
        have : z ∈ ps.filter (fun y => decide (x ≤ y)) := by rw [hf]; simp
        simpa using (List.mem_filter.1 this).2
      have hasc : Asc (z :: zs) := by rw [← hf]; exact h.filter _
      rw [hf] at hmem2
      rcases List.mem_cons.1 hmem2 with e | e
      · exact e.symm
      · have := (List.pairwise_cons.1 hasc).1 x e
        omega
    rw [hf] at hcut
    rw [hl]
    constructor
    · have := congrArg List.length hcut
      rw [List.length_append, List.length_cons] at this
      omega
    · have e := congrArg (fun l => zat l (ps.filter (fun y => decide (y < x))).length) hcut
      refine e.trans ?_
      rw [← hz]
      simp [zat]

/-- slices.BinarySearch of any ascending list: whether it is there, and where -/
theorem search_asc (ap : Option Addr) (cap : Nat) (ps : List Int) (x : Int) (w : World) (h : Asc ps) (hpl : ps.length ≤ 281474976710656) (hp : Lst w.heap.size w ap cap ps) :
    Calls Tryz.prog 76 #[.slice ap ps.length cap, .int .i64 x] w fun e w' => (∃ k : Nat, e = .returned (.tuple #[.int .i64 (k : Int), .bool (ps.contains x)]) ∧ (ps.contains x = true → k < ps.length ∧ zat ps k = x)) ∧ Below w.heap.size w w' := by
  by_cases h0 : ps.length = 0
  · rw [h0]
    refine (search0 ap cap x w).mono ?_
    rintro e w' ⟨rfl, hb⟩
    have hc : ps.contains x = false := by rw [List.length_eq_zero_iff.1 h0]; rfl
    rw [hc]
    exact ⟨⟨0, rfl, fun h => by cases h⟩, hb⟩
  · obtain ⟨bb, oo, hav, _⟩ := hp.row 0 (by omega)
    subst hav
    have := Tryz.search_any bb oo ps.length cap ps x w (Nat.le_refl _) (by omega) (fun j hj => by
      obtain ⟨b', o', e1, e2, e3⟩ := hp.row j hj
      cases e1
      rw [e3, zat_cf]) (by rw [List.take_length]; exact h.imp (fun h => Int.le_of_lt h))
    rw [List.take_length] at this
    refine this.mono ?_
    rintro e w' ⟨rfl, qq, rfl⟩
    exact ⟨⟨_, rfl, fun hc => asc_at h hc⟩, rfl, rfl, rfl, Nat.le_refl _, fun _ _ => rfl⟩

/-- rows that are unlike at a place that both show -/
def Apart (q : Nat) (psA : List Int) (rowsA : List (List Int)) (psB : List Int) (rowsB : List (List Int)) : Prop := ∃ i j, i < psA.length ∧ j < psB.length ∧ zat psA i = zat psB j ∧ elr q (rat rowsA i) ≠ elr q (rat rowsB j)
/-- what Collide answers -/
def CollR (q n : Nat) (tt : Prop) (w : World) (e : Ending) (w' : World) : Prop :=
  ((e = .returned (.tuple #[.slice none 0 0, .slice none 0 0, .bool false]) ∧ ¬ tt) ∨ (∃ v1 v2 U V, e = .returned (.tuple #[v1, v2, .bool true]) ∧ LstV w' v1 U ∧ LstV w' v2 V ∧ Clash q n U V ∧ tt)) ∧ Below w.heap.size w w'

end Go.Proofs.YtmmlphdekeflfaaGreatDoor
