/- Package pledge: Check, where it says no at once. Trees: on the way down to a place. Plain. Package tree: parting. slices.BinarySearch of any ascending list; what Collide answers. -/
import Derived.Test.YtmmlphdekeflfaaGreatDoorPgL
import Derived.Test.YtmmlphdekeflfaaGreatDoorPcAV
import Derived.Test.YtmmlphdekeflfaaGreatDoorPcAM
namespace Go.Proofs.YtmmlphdekeflfaaGreatDoor
open Go.RowKit

/-- what pledge.Check asks of sizes -/
def PlK (N : Nat) (v a : Int) (n4 n1 n2 n3 : Nat) : Prop := ∃ v' : Nat, v = (v' : Int) ∧ v' ≤ 12 ∧ 2 ^ (v' - v' / 2) ≤ N / 2 ∧ n4 = v' ∧ (1 ≤ a ∧ a ≤ 64) ∧ n1 = 4 ∧ n2 = 2 ^ (v' - v' / 2) ∧ n3 = 2 ^ (v' - v' / 2)

set_option maxRecDepth 100000 in
set_option maxHeartbeats 4000000 in
theorem pcheck_no (b d N c s : Nat) (v a : Int) (r t : Int) (a1 a2 a3 a4 : Option Addr) (c1 c2 c3 c4 n1 n2 n3 n4 : Nat) (x4 x5 x6 : Value) (w : World) (hd : DomAt w d b (N : Int) r t) (hN : N ≤ 65536) (hno : ¬ PlK N v a n4 n1 n2 n3) :
    Calls Tryz.prog 25 #[.pointer (some ⟨s, 0, none⟩), .pointer (some ⟨c, 0, none⟩), .pointer (some ⟨d, 0, none⟩), .int .i64 v, .slice a4 n4 c4, .int .i64 a, .agg #[.slice a1 n1 c1, .slice a2 n2 c2, .slice a3 n3 c3, x4, x5, x6]] w fun e w' => e = .returned (.tuple #[.int .i64 0, .bool false]) ∧ Below w.heap.size w w' := by
  obtain ⟨W0, hW0⟩ : ∃ W0, W0 = w.alloc (.cells #[.slice a1 n1 c1, .slice a2 n2 c2, .slice a3 n3 c3, x4, x5, x6] 51) := ⟨_, rfl⟩
  obtain ⟨P, hPP⟩ : ∃ P, P = w.heap.size := ⟨_, rfl⟩
  have hb0 : Below w.heap.size w W0 := by rw [hW0]; exact (Below.refl _ _).alloc (Nat.le_refl _) _
  have hs0 : W0.heap[P]? = some (.cells #[.slice a1 n1 c1, .slice a2 n2 c2, .slice a3 n3 c3, x4, x5, x6] 51 (0, 0)) := by rw [hW0, hPP]; exact heap_alloc_new w _
  have hd0 := hd.below hb0 hd.lt
  have HB0 := hid hb0
  have HS0 := hid hs0
  by_cases h12 : v < 0 ∨ 12 < v
  · have HNS := hid (newShape_no d v W0 h12)
    clear hd hd0 hb0 hs0 hno h12 HS0
    go_enter Tryz.func25, Tryz.ntmps25
    go_wp2_with fail
    rw [← hW0]
    clear hW0
    refine HNS.out.mono ?_
    rintro e w1 ⟨rfl, hb1⟩
    have HBE : Hid (Below w.heap.size w (w1.alloc (.cells #[.pointer none, .pointer none, .int .i64 0, .int .i64 0] 92))) := (HB0.out.trans (hb1.mono HB0.out.size)).alloc (Nat.le_trans HB0.out.size hb1.size) _
    clear hb1 HNS
    go_wp2_with fail
    go_ret2
    exact ⟨rfl, HBE.out⟩
  · obtain ⟨v', rfl⟩ := Int.eq_ofNat_of_zero_le (show 0 ≤ v by omega)
    have hv : v' ≤ 12 := by omega
    have HNS := hid (newShape_yes d b v' N r t W0 hd0 hv hN)
    obtain ⟨lo, hlo⟩ : ∃ lo, lo = v' - v' / 2 := ⟨_, rfl⟩
    obtain ⟨hi, hhi⟩ : ∃ hi, hi = v' / 2 := ⟨_, rfl⟩
    have hlo12 : lo ≤ 12 := by omega
    have hsv : shV b d v' = .agg #[.pointer (some ⟨b, 0, none⟩), .pointer (some ⟨d, 0, none⟩), .int .i64 (hi : Int), .int .i64 (lo : Int)] := by unfold shV; rw [hlo, hhi]
    rw [hsv, ← hlo] at HNS
    have HIT := hid (fun W => isTold_any n1 n2 n3 c1 c2 c3 lo a1 a2 a3 (.pointer (some ⟨b, 0, none⟩)) (.pointer (some ⟨d, 0, none⟩)) x4 x5 x6 (hi : Int) W hlo12)
    have HMA := hid (fun W => mayAsk_any a W)
    obtain ⟨T1, hT1⟩ : ∃ T1, T1 = decide (2 ^ lo ≤ N / 2) := ⟨_, rfl⟩
    obtain ⟨T2, hT2⟩ : ∃ T2, T2 = decide (1 ≤ a ∧ a ≤ 64) := ⟨_, rfl⟩
    obtain ⟨T3, hT3⟩ : ∃ T3, T3 = decide (n1 = 4 ∧ n2 = 2 ^ lo ∧ n3 = 2 ^ lo) := ⟨_, rfl⟩
    rw [← hT1] at HNS
    rw [← hT2] at HMA
    rw [← hT3] at HIT
    have HNO : Hid (T1 = true → n4 = v' → T2 = true → T3 = true → False) := fun k1 k2 k3 k4 => by
      rw [hT1] at k1
      rw [hT2] at k3
      rw [hT3] at k4
      have q1 := of_decide_eq_true k1
      have q3 := of_decide_eq_true k3
      have q4 := of_decide_eq_true k4
      rw [hlo] at q1 q4
      exact hno ⟨v', rfl, hv, q1, k2, q3, q4.1, q4.2.1, q4.2.2⟩
    have HSX : Hid (∀ (W1 W : World), Below W0.heap.size W0 W1 → Below (W1.alloc (.cells #[.pointer (some ⟨b, 0, none⟩), .pointer (some ⟨d, 0, none⟩), .int .i64 (hi : Int), .int .i64 (lo : Int)] 92)).heap.size (W1.alloc (.cells #[.pointer (some ⟨b, 0, none⟩), .pointer (some ⟨d, 0, none⟩), .int .i64 (hi : Int), .int .i64 (lo : Int)] 92)) W → (W.cell? ⟨W1.heap.size, 0, none⟩ = some (.pointer (some ⟨b, 0, none⟩)) ∧ W.cell? ⟨W1.heap.size, 1, none⟩ = some (.pointer (some ⟨d, 0, none⟩)) ∧ W.cell? ⟨W1.heap.size, 2, none⟩ = some (.int .i64 (hi : Int)) ∧ W.cell? ⟨W1.heap.size, 3, none⟩ = some (.int .i64 (lo : Int)) ∧ W.cell? ⟨P, 0, none⟩ = some (.slice a1 n1 c1) ∧ W.cell? ⟨P, 1, none⟩ = some (.slice a2 n2 c2) ∧ W.cell? ⟨P, 2, none⟩ = some (.slice a3 n3 c3) ∧ W.cell? ⟨P, 3, none⟩ = some x4 ∧ W.cell? ⟨P, 4, none⟩ = some x5 ∧ W.cell? ⟨P, 5, none⟩ = some x6) ∧ Below w.heap.size w W) := fun W1 W h1 h2 => by
      have e0 := heap_alloc_new W1 (.cells #[.pointer (some ⟨b, 0, none⟩), .pointer (some ⟨d, 0, none⟩), .int .i64 (hi : Int), .int .i64 (lo : Int)] 92)
      have hba : Below W1.heap.size W1 (W1.alloc (.cells #[.pointer (some ⟨b, 0, none⟩), .pointer (some ⟨d, 0, none⟩), .int .i64 (hi : Int), .int .i64 (lo : Int)] 92)) := (Below.refl _ _).alloc (Nat.le_refl _) _
      generalize W1.alloc (.cells #[.pointer (some ⟨b, 0, none⟩), .pointer (some ⟨d, 0, none⟩), .int .i64 (hi : Int), .int .i64 (lo : Int)] 92) = W2 at *
      have e1 := (h2.block _ (Array.getElem?_eq_some_iff.1 e0).1).trans e0
      have eP := (h1.block P (Array.getElem?_eq_some_iff.1 HS0.out).1).trans HS0.out
      have eP2 := (hba.block P (Array.getElem?_eq_some_iff.1 eP).1).trans eP
      have e2 := (h2.block P (Array.getElem?_eq_some_iff.1 eP2).1).trans eP2
      refine ⟨⟨?_, ?_, ?_, ?_, ?_, ?_, ?_, ?_, ?_, ?_⟩, ((HB0.out.trans (h1.mono HB0.out.size)).trans (hba.mono (Nat.le_trans HB0.out.size h1.size))).trans (h2.mono (Nat.le_trans (Nat.le_trans HB0.out.size h1.size) hba.size))⟩ <;> simp [World.cell?, e1, e2]
    clear hd hd0 hb0 hs0 hno h12 hT1 hT2 hT3 hsv hlo hhi
    go_enter Tryz.func25, Tryz.ntmps25
    go_wp2_with fail
    rw [← hW0, ← hPP]
    clear hW0 hPP
    refine HNS.out.mono ?_
    rintro e w1 ⟨rfl, hb1⟩
    have HX := hid (fun W => HSX.out w1 W hb1)
    clear HSX HNS hb1
    obtain ⟨⟨g0, g1, g2, g3, p0, p1, p2, p3, p4, p5⟩, hbe⟩ := HX.out _ (Below.refl _ _)
    have HBE := hid hbe
    clear hbe
    cases T1 with
    | false =>
      go_wp2_with fail
      go_ret2
      exact ⟨rfl, HBE.out⟩
    | true =>
      by_cases h4 : n4 = v'
      · have k4 : ((n4 : Int) != (v' : Int)) = false := by rw [h4]; simp
        cases T2 with
        | false =>
          go_wp2_with fail
          refine (HMA.out _).mono ?_
          rintro e w2 ⟨rfl, rfl⟩
          go_wp2_with fail
          go_ret2
          exact ⟨rfl, HBE.out⟩
        | true =>
          cases T3 with
          | true => exact (HNO.out rfl h4 rfl rfl).elim
          | false =>
            subst h4
            go_wp2_with fail
            refine (HMA.out _).mono ?_
            rintro e w2 ⟨rfl, hw2⟩
            have hw2' := hw2.symm
            subst hw2'
            clear hw2
            go_wp2_with fail
            refine (HIT.out _).mono ?_
            rintro e w3 ⟨rfl, hb3⟩
            have HB3 := hid (HX.out w3 hb3).2
            clear hb3
            go_wp2_with fail
            go_ret2
            exact ⟨rfl, HB3.out⟩
      · have k4 : ((n4 : Int) != (v' : Int)) = true := by simp; omega
        have k5 : ¬ (n4 : Int) = (v' : Int) := by omega
        go_wp2_with fail
        go_ret2
        exact ⟨rfl, HBE.out⟩

end Go.Proofs.YtmmlphdekeflfaaGreatDoor

namespace Go.Proofs.YtmmlphdekeflfaaGreatDoor
open Go.RowKit

/-- two lists, unlike as elements, with one digest -/
def Clash (q n : Nat) (U V : List Int) : Prop := U ≠ V ∧ elr q U = U ∧ elr q V = V ∧ digl q n U = digl q n V ∧ Fits U ∧ Fits V ∧ U.length ≤ 17592186044001 ∧ V.length ≤ 17592186044001

/-- what holds of a group on the way down in one walk -/
structure Way (q n N : Nat) (ps : List Int) (rows nodes : List (List Int)) (M' : Nat → Nat → Option (List Int)) (a b : Nat) : Prop where
  rd : Rd q n (M0 q n N ps rows nodes) a b (DV q n (M0 q n N ps rows nodes) a b)
  found : M' a b ≠ none

theorem Way.down {q n N : Nat} {ps : List Int} {rows nodes : List (List Int)} {M' : Nat → Nat → Option (List Int)} {a b j : Nat} (h : Way q n N ps rows nodes M' a b) (h1 : 1 ≤ N) (hj : j < ps.length) (ha : (a : Int) ≤ zat ps j) (hb : zat ps j < (b : Int)) (h2 : 2 ≤ b - a)
    (hcl : ClM (M0 q n N ps rows nodes) M') : Way q n N ps rows nodes M' a (a + lft (b - a)) ∧ Way q n N ps rows nodes M' (a + lft (b - a)) b ∧ DV q n (M0 q n N ps rows nodes) a b = digl q n (1 :: (DV q n (M0 q n N ps rows nodes) a (a + lft (b - a)) ++ DV q n (M0 q n N ps rows nodes) (a + lft (b - a)) b)) := by
  have hno : M0 q n N ps rows nodes a b = none := M0_none h1 h2 (smb_iff.2 ⟨j, hj, ha, hb⟩)
  have hr := h.rd
  generalize hD : DV q n (M0 q n N ps rows nodes) a b = D at hr
  cases hr with
  | found e => rw [hno] at e; cases e
  | node _ _ r1 r2 =>
    rcases hcl a b h.found with hc | ⟨_, c1, c2⟩
    · exact absurd hno hc
    · refine ⟨⟨by rw [DV_eq r1]; exact r1, c1⟩, ⟨by rw [DV_eq r2]; exact r2, c2⟩, ?_⟩
      rw [DV_eq r1, DV_eq r2]

end Go.Proofs.YtmmlphdekeflfaaGreatDoor

namespace Go.Proofs.YtmmlphdekeflfaaGreatDoor
open Go.RowKit

/-- a list, as a value -/
def LstV (W : World) (v : Value) (U : List Int) : Prop := ∃ a c, v = .slice a U.length c ∧ Lst W.heap.size W a c U
theorem LstV.keep {W W' : World} {v : Value} {U : List Int} (h : LstV W v U) (hb : Below W.heap.size W W') : LstV W' v U := by
  obtain ⟨a, c, rfl, hl⟩ := h
  exact ⟨a, c, rfl, (hl.below hb).mono hb.size⟩
theorem LstV.of {W : World} {base : Nat} {v : Value} {U : List Int} (h : W.ownsRow base 3 1 v U.length (U.map (Value.int .i64))) : LstV W v U := by
  obtain ⟨a, c, rfl, hl⟩ := lst_of_owns h
  exact ⟨a, c, rfl, hl⟩
/-- the state of the way down -/
structure PSt (q n N : Nat) (psA psB : List Int) (rowsA nodesA rowsB nodesB : List (List Int)) (MA MB : Nat → Nat → Option (List Int)) (w : World) (a b : Nat) (wr : World) : Prop where
  row : wr.rowIs w.heap.size 135 2 (duo (.int .i64 (a : Int)) (.int .i64 (b : Int)))
  below : Below w.heap.size w wr
  wayA : Way q n N psA rowsA nodesA MA a b
  wayB : Way q n N psB rowsB nodesB MB a b
  same : DV q n (M0 q n N psA rowsA nodesA) a b = DV q n (M0 q n N psB rowsB nodesB) a b

end Go.Proofs.YtmmlphdekeflfaaGreatDoor

namespace Go.Proofs.YtmmlphdekeflfaaGreatDoor
open Go.RowKit

/-- rows that are unlike at a place that both show -/
def Apart (q : Nat) (psA : List Int) (rowsA : List (List Int)) (psB : List Int) (rowsB : List (List Int)) : Prop := ∃ i j, i < psA.length ∧ j < psB.length ∧ zat psA i = zat psB j ∧ elr q (rat rowsA i) ≠ elr q (rat rowsB j)
/-- what Collide answers -/
def CollR (q n : Nat) (tt : Prop) (w : World) (e : Ending) (w' : World) : Prop :=
  ((e = .returned (.tuple #[.slice none 0 0, .slice none 0 0, .bool false]) ∧ ¬ tt) ∨ (∃ v1 v2 U V, e = .returned (.tuple #[v1, v2, .bool true]) ∧ LstV w' v1 U ∧ LstV w' v2 V ∧ Clash q n U V ∧ tt)) ∧ Below w.heap.size w w'

end Go.Proofs.YtmmlphdekeflfaaGreatDoor
