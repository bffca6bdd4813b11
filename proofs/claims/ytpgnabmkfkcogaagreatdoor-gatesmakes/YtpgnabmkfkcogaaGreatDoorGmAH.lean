/- Package gates: hasGates, faultOf. Pledges, plainly: columns, sums of rows, what a table that is 1 at one place extends to. Package sums: isTable, variables, hasPlaces, product, across, upTo, fixed. What bits.TrailingZeros answers in this program, by the library's own contract, where its table reads as its text lays it. Package sums: variables, by the table that counts last zeros. -/
import Derived.Test.YtpgnabmkfkcogaaGreatDoorGmAA
import Derived.Test.YtpgnabmkfkcogaaGreatDoorGmAG
import Derived.Test.YtpgnabmkfkcogaaGreatDoorGmAE
import Derived.Test.YtpgnabmkfkcogaaGreatDoorRefs
import Derived.Test.YtpgnabmkfkcogaaGreatDoorDoms
import Derived.Test.YtpgnabmkfkcogaaGreatDoorSpgs
import Derived.StillTailTactics
import Derived.Shelf.Spec.TrailingZeros
import Derived.Lib.TrailingZeros
import Derived.Test.YtpgnabmkfkcogaaGreatDoorProg
namespace Go.Proofs.YtpgnabmkfkcogaaGreatDoor
open Go.RowKit

theorem shl_pow {v : Nat} (h : v ≤ 6) : wrap64 (2 ^ min v 64) = ((2 ^ v : Nat) : Int) := by
  rw [Nat.min_eq_left (by omega)]
  obtain rfl | rfl | rfl | rfl | rfl | rfl | rfl : v = 0 ∨ v = 1 ∨ v = 2 ∨ v = 3 ∨ v = 4 ∨ v = 5 ∨ v = 6 := by omega
  all_goals (unfold wrap64; decide)

theorem gtO_dec (n : Nat) (g : GatZ) : decide (GtO n g) = (decide (0 ≤ g.kind ∧ g.kind < 2) && (decide (0 ≤ g.a ∧ g.a < (n : Int)) && decide (0 ≤ g.b ∧ g.b < (n : Int)))) := by
  rw [Bool.eq_iff_iff, Bool.and_eq_true, Bool.and_eq_true, decide_eq_true_eq, decide_eq_true_eq, decide_eq_true_eq, decide_eq_true_eq]
  constructor
  · rintro ⟨⟨h1, h2⟩, h3, h4⟩
    exact ⟨⟨h1, by omega⟩, h3, h4⟩
  · rintro ⟨⟨h1, h2⟩, h3, h4⟩
    exact ⟨⟨h1, by omega⟩, h3, h4⟩

set_option maxRecDepth 100000 in
set_option maxHeartbeats 4000000 in
theorem hasGates_any (wide : Int) (cL : Nat) (aL : Option Addr) (lys : List (List GatZ)) (w : World) (hS : SzC wide lys) (hl : LstGG w.heap.size w aL cL lys) :
    Calls Tryz.prog 159 #[.agg #[.int .i64 wide, .slice aL lys.length cL]] w fun e w' => e = .returned (.bool (gtD wide lys)) ∧ Below w.heap.size w w' := by
  obtain ⟨v, hv⟩ : ∃ v : Nat, wide = (v : Int) := ⟨wide.toNat, by have := hS.1; omega⟩
  subst hv
  have hsh := shl_pow (v := v) (by have := hS.1; omega)
  have HX0 : Hid (2 ^ v = 2 ^ bnn (v : Int) lys 0) := rfl
  have HXK : Hid (∀ k, k < lys.length → (lyt lys k).length = 2 ^ bnn (v : Int) lys (k + 1)) := fun k hk => (hS.own hk).1
  have HXL : Hid (∀ k, k < lys.length → (lyt lys k).length ≤ 64) := fun k hk => by rw [(hS.own hk).1]; exact pow_6 (hS.bn (by omega)).2
  have HNO : Hid (∀ i k, i < lys.length → k < (lyt lys i).length → decide (GtO (2 ^ bnn (v : Int) lys i) (gat (lyt lys i) k)) = false → gtD (v : Int) lys = false) := fun i k hi hk hd => gtD_no (fun h => by have := h i hi k hk; rw [decide_eq_false_iff_not] at hd; exact hd this)
  have HYE : Hid ((∀ i, i < lys.length → ∀ k, k < (lyt lys i).length → GtO (2 ^ bnn (v : Int) lys i) (gat (lyt lys i) k)) → gtD (v : Int) lys = true) := fun h => gtD_yes h
  have HIX : Hid (∀ W, Below w.heap.size w W → LstGG w.heap.size W aL cL lys) := fun W hW => hl.below hW
  have hlen := hS.2.1.2
  obtain ⟨n, hn⟩ : ∃ n, n = lys.length := ⟨_, rfl⟩
  have HN := hid hn
  have HB0 : Hid (Below w.heap.size w (w.alloc (.cells #[.int .i64 (v : Int), .slice aL n cL] 69))) := (Below.refl _ _).alloc (Nat.le_refl _) _
  simp only [← hn] at HXK HXL HNO HYE hlen ⊢
  generalize gtD (v : Int) lys = D at *
  generalize 2 ^ v = X at *
  generalize bnn (v : Int) lys = bn at *
  clear hS hl hn
  go_enter Tryz.func159, Tryz.ntmps159
  go_wp2_with fail
  rw [hsh]
  clear hsh
  generalize w.alloc (.cells #[.int .i64 (v : Int), .slice aL n cL] 69) = W0 at *
  go_loopw [3, 5, 7, 14] (fun bv _ _ iv wr => ∃ k : Nat, k ≤ n ∧ iv = .int .i64 (k : Int) ∧ (∃ Y : Nat, bv = .int .i64 (Y : Int) ∧ Hid (Y = 2 ^ bn k)) ∧ Hid (Below w.heap.size w wr ∧ ∀ i, i < k → ∀ j, j < (lyt lys i).length → GtO (2 ^ bn i) (gat (lyt lys i) j))) (fun _ _ _ iv _ => n - (intOf iv).toNat)
  case atStart => exact ⟨0, by omega, rfl, ⟨X, rfl, HX0.out⟩, HB0.out, fun i hi => by omega⟩
  case round =>
    obtain ⟨k, hk, rfl, ⟨Y, rfl, HY⟩, hI⟩ := hrel
    obtain ⟨wo, hwo⟩ : ∃ wo, wo = wr := ⟨_, rfl⟩
    subst hwo
    by_cases hlt : k < n
    · have hlt2 : (k : Int) < (n : Int) := by omega
      have hks : IntKind.i64.wrap ((k : Int) + 1) = (k : Int) + 1 := by rw [IntKind.wrap_i64]; omega
      obtain ⟨b0, o0, ak, ck, rfl, hb0, hc, hg⟩ := (HIX.out wo hI.out.1).row k (by rw [← HN.out]; exact hlt)
      have HGK : Hid (∀ W, Below wo.heap.size wo W → LstG w.heap.size W ak ck (lyt lys k)) := fun W hW => hg.below (hW.mono hI.out.1.size)
      have HNK : Hid (∀ j, j < (lyt lys k).length → decide (GtO (2 ^ bn k) (gat (lyt lys k) j)) = false → D = false) := fun j hj => HNO.out k j hlt hj
      have HLK := HXL.out k hlt
      have HYK := hid (HXK.out k hlt)
      have HBO := hid hI.out.1
      have HPA := hid hI.out.2
      rw [← HY.out] at HNK
      clear hI hg
      obtain ⟨L, hL⟩ : ∃ L, L = (lyt lys k).length := ⟨_, rfl⟩
      have HLE := hid hL
      simp only [← hL] at HNK HLK HYK
      rw [← hL] at hc
      clear hL
      go_wp2_with fail
      go_loopw [7, 20] (fun _ iv wi => ∃ j : Nat, j ≤ L ∧ iv = .int .i64 (j : Int) ∧ Hid (Below wo.heap.size wo wi ∧ ∀ i, i < j → GtO Y (gat (lyt lys k) i))) (fun _ iv _ => L - (intOf iv).toNat)
      case atStart => exact ⟨0, by omega, rfl, Below.refl _ _, fun i hi => by omega⟩
      case round =>
        obtain ⟨j, hj, rfl, hJ⟩ := hrel
        by_cases hjt : j < L
        · have hjt2 : (j : Int) < (L : Int) := by omega
          have hjs : IntKind.i64.wrap ((j : Int) + 1) = (j : Int) + 1 := by rw [IntKind.wrap_i64]; omega
          obtain ⟨b1, o1, rfl, hb1, g0, g1, g2⟩ := (HGK.out wr hJ.out.1).row j (by rw [← HLE.out]; exact hjt)
          have HDE := hid (gtO_dec Y (gat (lyt lys k) j))
          have HNJ := hid (HNK.out j hjt)
          have HJ2 : Hid (GtO Y (gat (lyt lys k) j) → ∀ i, i < j + 1 → GtO Y (gat (lyt lys k) i)) := fun h i hi => by
            by_cases e : i = j
            · rw [e]; exact h
            · exact hJ.out.2 i (by omega)
          obtain ⟨W2, hW2⟩ : ∃ W2, W2 = wr.alloc (.cells #[.int .i64 (gat (lyt lys k) j).kind, .int .i64 (gat (lyt lys k) j).a, .int .i64 (gat (lyt lys k) j).b] 85) := ⟨_, rfl⟩
          obtain ⟨hb2, hs2, hz2⟩ := own_blk hW2
          have HB2 : Hid (Below wo.heap.size wo W2) := hJ.out.1.trans (hb2.mono hJ.out.1.size)
          have HBK := hid (isBelow_any (gat (lyt lys k) j).kind 2 W2)
          have HBA := hid (isBelow_any (gat (lyt lys k) j).a (Y : Int) W2)
          have HBB := hid (isBelow_any (gat (lyt lys k) j).b (Y : Int) W2)
          generalize gat (lyt lys k) j = g at *
          obtain ⟨B, hB⟩ : ∃ B, B = wr.heap.size := ⟨_, rfl⟩
          have HR := hid hB
          rw [← hB] at hs2
          have c0 : W2.cell? ⟨B, 0, none⟩ = some (.int .i64 g.kind) := by simp [World.cell?, hs2]
          have c1 : W2.cell? ⟨B, 1, none⟩ = some (.int .i64 g.a) := by simp [World.cell?, hs2]
          have c2 : W2.cell? ⟨B, 2, none⟩ = some (.int .i64 g.b) := by simp [World.cell?, hs2]
          have HEW : Hid (Below w.heap.size w W2) := HBO.out.trans (HB2.out.mono HBO.out.size)
          clear hJ hb2 hz2 hs2 hB
          by_cases q0 : 0 ≤ g.kind ∧ g.kind < 2
          · rw [decide_eq_true q0] at HDE HBK
            by_cases q1 : 0 ≤ g.a ∧ g.a < (Y : Int)
            · rw [decide_eq_true q1] at HDE HBA
              by_cases q2 : 0 ≤ g.b ∧ g.b < (Y : Int)
              · rw [decide_eq_true q2] at HDE HBB
                have HE := hid (HJ2.out (of_decide_eq_true (HDE.out.trans rfl)))
                clear q0 q1 q2
                generalize g.kind = xk at *
                generalize g.a = xa at *
                generalize g.b = xb at *
                clear HDE HNJ HJ2
                go_wp2_with fail
                rw [← hW2, ← HR.out]
                clear hW2 g0 g1 g2
                refine HBK.out.mono ?_
                rintro e w1 ⟨rfl, hw⟩
                have hw1 := hw.symm
                subst hw1
                clear hw
                go_wp2_with fail
                refine HBA.out.mono ?_
                rintro e w1 ⟨rfl, hw⟩
                have hw1 := hw.symm
                subst hw1
                clear hw
                go_wp2_with fail
                refine HBB.out.mono ?_
                rintro e w1 ⟨rfl, hw⟩
                have hw1 := hw.symm
                subst hw1
                clear hw
                go_wp2_with fail
                go_roundw
                case rel => exact ⟨j + 1, by omega, by go_num, HB2.out, HE.out⟩
                case measure => simp [intOf]; omega
              · rw [decide_eq_false q2] at HDE HBB
                have HE : Hid (D = false ∧ Below w.heap.size w W2) := ⟨HNJ.out (HDE.out.trans rfl), HEW.out⟩
                clear q0 q1 q2
                generalize g.kind = xk at *
                generalize g.a = xa at *
                generalize g.b = xb at *
                clear HDE HNJ HJ2
                go_wp2_with fail
                rw [← hW2, ← HR.out]
                clear hW2 g0 g1 g2
                refine HBK.out.mono ?_
                rintro e w1 ⟨rfl, hw⟩
                have hw1 := hw.symm
                subst hw1
                clear hw
                go_wp2_with fail
                refine HBA.out.mono ?_
                rintro e w1 ⟨rfl, hw⟩
                have hw1 := hw.symm
                subst hw1
                clear hw
                go_wp2_with fail
                refine HBB.out.mono ?_
                rintro e w1 ⟨rfl, hw⟩
                have hw1 := hw.symm
                subst hw1
                clear hw
                go_wp2_with fail
                go_ret
                exact ⟨by rw [HE.out.1]; rfl, HE.out.2⟩
            · rw [decide_eq_false q1] at HDE HBA
              have HE : Hid (D = false ∧ Below w.heap.size w W2) := ⟨HNJ.out (HDE.out.trans rfl), HEW.out⟩
              clear q0 q1
              generalize g.kind = xk at *
              generalize g.a = xa at *
              generalize g.b = xb at *
              clear HDE HNJ HJ2
              go_wp2_with fail
              rw [← hW2, ← HR.out]
              clear hW2 g0 g1 g2
              refine HBK.out.mono ?_
              rintro e w1 ⟨rfl, hw⟩
              have hw1 := hw.symm
              subst hw1
              clear hw
              go_wp2_with fail
              refine HBA.out.mono ?_
              rintro e w1 ⟨rfl, hw⟩
              have hw1 := hw.symm
              subst hw1
              clear hw
              go_wp2_with fail
              go_ret
              exact ⟨by rw [HE.out.1]; rfl, HE.out.2⟩
          · rw [decide_eq_false q0] at HDE HBK
            have HE : Hid (D = false ∧ Below w.heap.size w W2) := ⟨HNJ.out (HDE.out.trans rfl), HEW.out⟩
            clear q0
            generalize g.kind = xk at *
            generalize g.a = xa at *
            generalize g.b = xb at *
            clear HDE HNJ HJ2
            go_wp2_with fail
            rw [← hW2, ← HR.out]
            clear hW2 g0 g1 g2
            refine HBK.out.mono ?_
            rintro e w1 ⟨rfl, hw⟩
            have hw1 := hw.symm
            subst hw1
            clear hw
            go_wp2_with fail
            go_ret
            exact ⟨by rw [HE.out.1]; rfl, HE.out.2⟩
        · obtain rfl : j = L := by omega
          have hjt2 : ¬ (j : Int) < (j : Int) := by omega
          have HE : Hid (Below w.heap.size w wr ∧ ∀ i, i < k + 1 → ∀ j, j < (lyt lys i).length → GtO (2 ^ bn i) (gat (lyt lys i) j)) := ⟨HBO.out.trans (hJ.out.1.mono HBO.out.size), fun i hi q hq => by
            by_cases e : i = k
            · subst e
              rw [← HY.out]
              exact hJ.out.2 q (by rw [HLE.out]; exact hq)
            · exact HPA.out i (by omega) q hq⟩
          clear hJ
          go_wp2_with fail
          go_roundw
          case rel => exact ⟨k + 1, by omega, by go_num, ⟨j, rfl, HYK.out⟩, HE.out⟩
          case measure => simp [intOf]; omega
    · obtain rfl : k = n := by omega
      have hlt2 : ¬ (k : Int) < (k : Int) := by omega
      have HE : Hid (D = true ∧ Below w.heap.size w wo) := ⟨HYE.out (fun i hi j hj => hI.out.2 i hi j hj), hI.out.1⟩
      clear hI
      go_wp2_with fail
      go_ret
      exact ⟨by rw [HE.out.1]; rfl, HE.out.2⟩

set_option maxRecDepth 100000 in
set_option maxHeartbeats 1000000 in
theorem faultOf_any (wide : Int) (cL : Nat) (aL : Option Addr) (lys : List (List GatZ)) (w : World) (hB : CirB lys) (hl : LstGG w.heap.size w aL cL lys) :
    Calls Tryz.prog 91 #[.agg #[.int .i64 wide, .slice aL lys.length cL]] w fun e w' => e = .returned (errz (flt wide lys)) ∧ Below w.heap.size w w' := by
  obtain ⟨W0, hW0⟩ : ∃ W0, W0 = w.alloc (.cells #[.int .i64 wide, .slice aL lys.length cL] 69) := ⟨_, rfl⟩
  obtain ⟨hb0, hs0, hz0⟩ := own_blk hW0
  obtain ⟨G, hG⟩ : ∃ G, G = w.heap.size := ⟨_, rfl⟩
  rw [← hG] at hs0
  have HC : Hid (∀ W, Below W0.heap.size W0 W → W.cell? ⟨G, 0, none⟩ = some (.int .i64 wide) ∧ W.cell? ⟨G, 1, none⟩ = some (.slice aL lys.length cL)) := fun W hW => by
    have e1 := (hW.block G (Array.getElem?_eq_some_iff.1 hs0).1).trans hs0
    exact ⟨by simp [World.cell?, e1], by simp [World.cell?, e1]⟩
  have HSI := hid (hasSizes_any wide cL aL lys W0 hB (hl.step hb0))
  have HGA : Hid (SzC wide lys → ∀ W, Below W0.heap.size W0 W → Calls Tryz.prog 159 #[.agg #[.int .i64 wide, .slice aL lys.length cL]] W fun e w' => e = .returned (.bool (gtD wide lys)) ∧ Below W.heap.size W w') := fun h W hW => hasGates_any wide cL aL lys W h ((hl.step hb0).step hW)
  have HB0 := hid hb0
  have HWG := hid hW0
  have HG := hid hG
  obtain ⟨c0, c1⟩ := HC.out W0 (Below.refl _ _)
  by_cases hS : SzC wide lys
  · rw [szD_yes hS] at HSI
    have HGB := hid (HGA.out hS)
    have HFD : Hid (errz (flt wide lys) = if gtD wide lys then .nilIface else .iface 101 (.int .i64 3)) := by
      unfold Hid
      by_cases hg : GtC wide lys
      · rw [flt_none hS hg, gtD_yes hg]; rfl
      · rw [flt_range hS hg, gtD_no hg]; rfl
    generalize errz (flt wide lys) = V at *
    generalize gtD wide lys = D at *
    generalize lys.length = n at *
    clear HGA hS hl hB hb0 hs0 hz0 hW0 hG
    go_enter Tryz.func91, Tryz.ntmps91
    go_wp2_with fail
    rw [← HG.out, ← HWG.out]
    refine HSI.out.mono ?_
    rintro e w1 ⟨rfl, hb1⟩
    have HGC := hid (HGB.out w1 hb1)
    obtain ⟨d0, d1⟩ := HC.out w1 hb1
    have HB1 : Hid (Below w.heap.size w w1) := HB0.out.trans (hb1.mono HB0.out.size)
    clear hb1
    go_wp2_with fail
    refine HGC.out.mono ?_
    rintro e w2 ⟨rfl, hb2⟩
    have HB2 : Hid (Below w.heap.size w w2) := HB1.out.trans (hb2.mono HB1.out.size)
    clear hb2
    cases D with
    | true =>
      go_wp2_with fail
      go_ret
      exact ⟨by rw [HFD.out]; rfl, HB2.out⟩
    | false =>
      go_wp2_with fail
      go_ret
      exact ⟨by rw [HFD.out]; rfl, HB2.out⟩
  · rw [szD_no hS] at HSI
    have HFD : Hid (errz (flt wide lys) = .iface 101 (.int .i64 2)) := by unfold Hid; rw [flt_size hS]; rfl
    generalize errz (flt wide lys) = V at *
    generalize lys.length = n at *
    clear HGA hS hl hB hb0 hs0 hz0 hW0 hG
    go_enter Tryz.func91, Tryz.ntmps91
    go_wp2_with fail
    rw [← HG.out, ← HWG.out]
    refine HSI.out.mono ?_
    rintro e w1 ⟨rfl, hb1⟩
    have HB1 : Hid (Below w.heap.size w w1) := HB0.out.trans (hb1.mono HB0.out.size)
    clear hb1
    go_wp2_with fail
    go_ret
    exact ⟨by rw [HFD.out]; rfl, HB1.out⟩

end Go.Proofs.YtpgnabmkfkcogaaGreatDoor

namespace Go.Proofs.YtpgnabmkfkcogaaGreatDoor
open Go.RowKit

theorem ps_sm (f : Nat → Int) (x : Int) (n : Nat) : Pol.ps f x n = Dom.sm (fun i => f i * x ^ i) n := by
  induction n with
  | zero => rfl
  | succ n ih => simp only [Pol.ps, Dom.sm]; rw [ih]
theorem emod_of_dvd {p : Nat} {a b : Int} (h : (p : Int) ∣ a - b) : a % (p : Int) = b % (p : Int) := by
  have := Int.emod_eq_emod_iff_emod_sub_eq_zero (n := (p : Int)) (m := a) (k := b)
  exact this.2 (Int.emod_eq_zero_of_dvd h)
theorem prz_front (f : Nat → Int) (n : Nat) : Sum.prz f (n + 1) = f 0 * Sum.prz (fun k => f (k + 1)) n := by
  induction n with
  | zero => simp [Sum.prz]
  | succ n ih =>
    rw [Sum.prz, ih, Sum.prz]
    grind
theorem sm_hit {f : Nat → Int} {n k : Nat} (hk : k < n) (h : ∀ i, i < n → i ≠ k → f i = 0) : Dom.sm f n = f k := by
  induction n with
  | zero => omega
  | succ n ih =>
    simp only [Dom.sm]
    by_cases e : k = n
    · subst e
      have : Dom.sm f k = Dom.sm (fun _ => 0) k := Dom.sm_same (fun i hi => h i (by omega) (by omega))
      rw [this, Dom.sm_zero]; omega
    · rw [ih (by omega) (fun i hi => h i (by omega)), h n (by omega) (by omega)]; omega
/-- the table that is 1 at a place -/
theorem ext_unit (at' : Nat → Int) (v i : Nat) (hi : i < 2 ^ v) (t : Nat → Int) (h1 : t i = 1) (h0 : ∀ j, j < 2 ^ v → j ≠ i → t j = 0) : Sum.ext t at' v = Sum.wgt at' v i := by
  unfold Sum.ext
  rw [sm_hit hi (fun j hj hne => by rw [h0 j hj hne]; omega), h1]
  omega
end Go.Proofs.YtpgnabmkfkcogaaGreatDoor

namespace Go.Proofs.YtpgnabmkfkcogaaGreatDoor
open Go.RowKit

theorem vrs_iff (n : Nat) : 0 ≤ vrs n ↔ ∃ v : Nat, v ≤ 12 ∧ n = 2 ^ v := by
  constructor
  · intro h
    obtain ⟨v, h1, h2, _⟩ := vrs_of h
    exact ⟨v, h1, h2⟩
  · rintro ⟨v, h1, h2⟩
    rw [vrs_yes h1 h2]
    omega
theorem pow_12 {v : Nat} (h : v ≤ 12) : 2 ^ v ≤ 4096 := by
  have : 2 ^ v ≤ 2 ^ 12 := Nat.pow_le_pow_right (by omega) h
  omega

set_option maxRecDepth 100000 in
theorem istable_any (n cap : Nat) (a : Option Addr) (w : World) (hn : n ≤ 281474976710656) :
    Calls Tryz.prog 75 #[.slice a n cap] w fun e w' => e = .returned (.bool (decide (0 ≤ vrs n))) ∧ w' = w := by
  by_cases h1 : n ≤ 4096
  · have HO := hid (ones_any n w (by omega))
    have h2 : (n : Int) ≤ 4096 := by omega
    have HB : Hid ((((pnz n : Nat) : Int) == 1) = decide (0 ≤ vrs n)) := by
      unfold Hid
      rw [Bool.eq_iff_iff, beq_iff_eq, decide_eq_true_eq, vrs_iff]
      constructor
      · intro h
        obtain ⟨k, hk, rfl⟩ := (pnz_one (n := n) (by omega)).1 (by omega)
        refine ⟨k, ?_, rfl⟩
        rcases Nat.lt_or_ge 12 k with g | g
        · have : 2 ^ 13 ≤ 2 ^ k := Nat.pow_le_pow_right (by omega) g
          omega
        · exact g
      · rintro ⟨v, hv, rfl⟩
        rw [(pnz_one (by omega)).2 ⟨v, by omega, rfl⟩]
        rfl
    generalize pnz n = z at *
    generalize decide (0 ≤ vrs n) = B at *
    go_enter Tryz.func75, Tryz.ntmps75
    go_wp2_with fail
    refine HO.out.mono ?_
    rintro e w1 ⟨rfl, rfl⟩
    go_wp2_with fail
    go_ret
    exact ⟨by rw [← HB.out]; rfl, rfl⟩
  · have h2 : ¬ (n : Int) ≤ 4096 := by omega
    have HB : decide (0 ≤ vrs n) = false := by
      rw [decide_eq_false_iff_not, vrs_iff]
      rintro ⟨v, hv, rfl⟩
      have := pow_12 hv
      omega
    rw [HB]
    clear HB
    go_enter Tryz.func75, Tryz.ntmps75
    go_wp2_with fail
    go_ret
    exact ⟨rfl, rfl⟩

set_option maxRecDepth 100000 in
set_option maxHeartbeats 2000000 in
theorem fixed_any (p b c1 : Nat) (a1 : Option Addr) (t : List Int) (r : Int) (w : World) (n1 : Nat) (h3 : 3 ≤ p) (hm : p ≤ 2147483647) (hp : w.cell? ⟨b, 0, none⟩ = some (.int .i64 p)) (hl : t.length ≤ 17592186043904) (hf1 : Fits t) (hr1 : -9223372036854775808 ≤ r) (hr2 : r ≤ 9223372036854775807) (hrow : RowB n1 w a1 t) (hn1 : n1 ≤ w.heap.size) :
    Calls Tryz.prog 77 #[.pointer (some ⟨b, 0, none⟩), .slice a1 t.length c1, .int .i64 r] w fun e w' => e = .returned (.slice (some ⟨w.heap.size, 0, none⟩) (t.length / 2) (t.length / 2)) ∧ ArrI w' w.heap.size 3 (t.length / 2) (zat (fixl p t r)) ∧ Below w.heap.size w w' := by
  have HF1 := hid hf1
  have HR1 := hid hrow
  have HP := hid hp
  have hbl : b < w.heap.size := heap_lt hp
  obtain ⟨N, hN⟩ : ∃ N, N = t.length := ⟨_, rfl⟩
  obtain ⟨h, hh⟩ : ∃ h, h = N / 2 := ⟨_, rfl⟩
  have q1 : IntKind.i64.wrap ((N : Int).tdiv 2) = (h : Int) := by
    rw [Int.tdiv_eq_ediv_of_nonneg (by omega), IntKind.wrap_i64]
    omega
  have q0 : (N : Int) / 2 = (h : Int) := by omega
  have q2 : IntKind.i64.wrap (h : Int) = (h : Int) := by rw [IntKind.wrap_i64]; omega
  have hhN : h + h ≤ N := by omega
  rw [← hN] at hl ⊢
  rw [← hh]
  have HN := hid hN
  have HH : Hid (h = t.length / 2) := by unfold Hid; rw [hh, hN]
  obtain ⟨G, hG⟩ : ∃ G : Nat → Int, G = zat (fixl p t r) := ⟨_, rfl⟩
  rw [← hG]
  have HG : Hid (∀ i, i < h → G i = (zat t i * (1 - r) + zat t (i + h) * r) % (p : Int)) := fun i hi => by rw [hG, HH.out]; exact fixl_at (by rw [← HH.out]; exact hi)
  have hmx : Tryz.prog.follows .mixedOrders = true := by kernel_rfl
  clear hf1 hrow hN hh hG hp
  have hmk2 := fun w => run_make_row' (P := Tryz.prog) 23 3 (.int .i64 0) 8 Tryz.underlying23 Tryz.infoInt rfl .i64 .i64 h (by omega) (by omega) w
  go_enter Tryz.func77, Tryz.ntmps77
  go_wp2_with fail
  go_loopw [17] (fun iv wr => ∃ k : Nat, k ≤ h ∧ iv = .int .i64 k ∧ Hid (ArrI wr w.heap.size 3 h (fll G (fun _ => 0) k) ∧ Below w.heap.size w wr)) (fun iv _ => h - (intOf iv).toNat)
  case atStart => exact ⟨0, by omega, rfl, by rw [fll_zero]; exact World.rowIs_made _ _ _ _, (Below.refl _ _).alloc (Nat.le_refl _) _⟩
  case round =>
    obtain ⟨k, hk, rfl, hI⟩ := hrel
    by_cases hlt : k < h
    · have hlt2 : (k : Int) < (h : Int) := by omega
      have hkN : (k : Int) < (N : Int) := by omega
      have hks : IntKind.i64.wrap ((k : Int) + 1) = (k : Int) + 1 := by rw [IntKind.wrap_i64]; omega
      obtain ⟨bt, ot, rfl, hb, hc⟩ := HR1.out k (by rw [← HN.out]; omega)
      obtain ⟨_, _, e1, _, hd⟩ := HR1.out (k + h) (by rw [← HN.out]; omega)
      cases e1
      have hc2 := (hI.out.2.cell (p := ⟨bt, ot + k, none⟩) (show bt < w.heap.size by omega)).trans hc
      have hd2 := (hI.out.2.cell (p := ⟨bt, ot + (k + h), none⟩) (show bt < w.heap.size by omega)).trans hd
      have hpc := (hI.out.2.cell (p := ⟨b, 0, none⟩) hbl).trans HP.out
      obtain ⟨f1, f2⟩ := HF1.out.all k
      obtain ⟨g1, g2⟩ := HF1.out.all (k + h)
      have HGk : Hid (G k = (zat t k * (1 - r) + zat t (k + h) * r) % (p : Int)) := HG.out k hlt
      obtain ⟨kh, hkh⟩ : ∃ kh, kh = k + h := ⟨_, rfl⟩
      have k1 : IntKind.i64.wrap ((h : Int) + (k : Int)) = (kh : Int) := by rw [IntKind.wrap_i64]; omega
      have k0 : (h : Int) + (k : Int) = (kh : Int) := by omega
      have k3 : IntKind.i64.wrap (kh : Int) = (kh : Int) := by rw [IntKind.wrap_i64]; omega
      have k2 : (kh : Int) < (N : Int) := by omega
      rw [← hkh] at hd2 g1 g2 HGk
      generalize zat t k = x at *
      generalize zat t kh = y at *
      have HSU := hid (sub_any p b y x wr.drew h3 hm hpc g1 g2 f1 f2)
      obtain ⟨m1, m2⟩ := emod_bounds (y - x) p h3
      have HSD := hid (dvd_self_mod p (y - x))
      generalize (y - x) % (p : Int) = sm' at *
      have HMU := hid (mul_any p b r sm' wr.drew h3 hm hpc hr1 hr2 (by omega) (by omega))
      obtain ⟨m3, m4⟩ := emod_bounds (r * sm') p h3
      have HMD := hid (dvd_self_mod p (r * sm'))
      generalize r * sm' % (p : Int) = mm at *
      have HAD := hid (add_any p b x mm wr.drew h3 hm hpc f1 f2 (by omega) (by omega))
      have HS : Hid ((x + mm) % (p : Int) = G k) := by
        unfold Hid
        rw [HGk.out, Pol.emod_eq_iff (by omega)]
        have e2 := Int.dvd_mul_of_dvd_right (b := r) HSD.out
        have e3 := Int.dvd_add HMD.out e2
        rwa [show mm - r * sm' + r * (sm' - (y - x)) = x + mm - (x * (1 - r) + y * r) from by grind] at e3
      rw [HS.out] at HAD
      have c1 := hI.out.1.cell hlt
      have y1 := hI.out.1.frozen k
      have HE : Hid (ArrI (wr.setCell ⟨w.heap.size, k, none⟩ (.int .i64 (G k))).drew w.heap.size 3 h (fll G (fun _ => 0) (k + 1)) ∧ Below w.heap.size w (wr.setCell ⟨w.heap.size, k, none⟩ (.int .i64 (G k))).drew) := ⟨hI.out.1.next, (hI.out.2.setCell (p := ⟨w.heap.size, k, none⟩) (by simp) _).drew⟩
      generalize G k = z at *
      generalize fll G (fun _ => 0) k k = y0 at *
      clear hI hc hd hkh HGk HS HSD HMD hb hpc
      go_wp2_with fail
      go_still_tail 24, hmx
      still_call HSU.out
      repeat still_step
      still_call HMU.out
      repeat still_step
      still_call HAD.out
      repeat still_step
      refine wpStill_nil ?_
      go_wp2_with fail
      go_roundw
      case rel => exact ⟨k + 1, by omega, by go_num, HE⟩
      case measure => simp [intOf]; omega
    · obtain rfl : k = h := by omega
      have hlt2 : ¬ (k : Int) < (k : Int) := by omega
      have HE : Hid (ArrI wr w.heap.size 3 k G ∧ Below w.heap.size w wr) := ⟨hI.out.1.congr (fun j hj => fll_all hj), hI.out.2⟩
      clear hI
      go_wp2_with fail
      go_ret
      exact ⟨rfl, HE.out⟩

end Go.Proofs.YtpgnabmkfkcogaaGreatDoor

namespace Go.Proofs
open Go.Shelf
def Tryz.laysTz_ren : Go.Shelf.Ren := ⟨fun | 27 => 107 | 28 => 174 | 29 => 175 | n => n, fun | 0 => 0 | 3 => 3 | 4 => 4 | 5 => 5 | 22 => 222 | 25 => 179 | 27 => 220 | 53 => 274 | 54 => 275 | n => n, fun | 0 => 1 | 1 => 2 | n => n⟩
theorem Tryz.laysTz : Go.Proofs.Lays7.n27 Tryz.prog Tryz.laysTz_ren := {
  mixed := by kernel_rfl
  f27 := Tryz.func107.trans (congrArg some (by kernel_rfl))
  f28 := Tryz.func174.trans (congrArg some (by kernel_rfl))
  f29 := Tryz.func175.trans (congrArg some (by kernel_rfl))
  t0 := Tryz.underlying0
  a0 := Tryz.isAgg0
  z0 := Tryz.sizeOf0
  v0 := Tryz.zeroValue0
  i0 := by kernel_rfl
  t3 := Tryz.underlying3
  a3 := Tryz.isAgg3
  z3 := Tryz.sizeOf3
  v3 := Tryz.zeroValue3
  i3 := by kernel_rfl
  t4 := Tryz.underlying4
  a4 := Tryz.isAgg4
  z4 := Tryz.sizeOf4
  v4 := Tryz.zeroValue4
  i4 := by kernel_rfl
  t5 := Tryz.underlying5
  a5 := Tryz.isAgg5
  z5 := Tryz.sizeOf5
  v5 := Tryz.zeroValue5
  i5 := by kernel_rfl
  t22 := Tryz.underlying222
  a22 := Tryz.isAgg222
  z22 := Tryz.sizeOf222
  v22 := Tryz.zeroValue222
  i22 := by kernel_rfl
  t25 := Tryz.underlying179
  a25 := Tryz.isAgg179
  z25 := Tryz.sizeOf179
  v25 := Tryz.zeroValue179
  i25 := by kernel_rfl
  t27 := Tryz.underlying220
  a27 := Tryz.isAgg220
  z27 := Tryz.sizeOf220
  v27 := Tryz.zeroValue220
  i27 := by kernel_rfl
  t53 := Tryz.underlying274
  a53 := Tryz.isAgg274
  z53 := Tryz.sizeOf274
  v53 := Tryz.zeroValue274
  i53 := by kernel_rfl
  t54 := Tryz.underlying275
  a54 := Tryz.isAgg275
  z54 := Tryz.sizeOf275
  g0 := by kernel_rfl
  g1 := by kernel_rfl }
theorem YtpgnabmkfkcogaaGreatDoor.tz_any (x : Nat) (hx0 : x ≠ 0) (hx : x ≤ 2147483647) (w : World) (hT : TabAt 2 Lib.deBruijn64tab w) :
    Calls Tryz.prog 107 #[.int .u64 x] w fun e w' => ∃ S m : Nat, e = .returned (.int .i64 S) ∧ S < 64 ∧ x = 2 ^ S * (2 * m + 1) ∧ w' = w := by
  refine (Any7.bits_TrailingZeros Tryz.laysTz x (by omega) w (fun _ => hT)).mono fun e w' ⟨he, hw⟩ => ?_
  obtain ⟨m, h1, h2⟩ := Lib.ctzFrom_spec 64 x (by omega) (Nat.lt_of_le_of_lt hx (by decide))
  refine ⟨Lib.ctz 64 x, m, he, ?_, ?_, hw⟩
  · unfold Lib.ctz; rw [if_neg hx0]; exact h2
  · unfold Lib.ctz; rw [if_neg hx0]; exact h1
end Go.Proofs

namespace Go.Proofs.YtpgnabmkfkcogaaGreatDoor
open Go.RowKit

theorem pow_odd {S v m : Nat} (h : 2 ^ v = 2 ^ S * (2 * m + 1)) : S = v := by
  rcases Nat.lt_trichotomy S v with g | g | g
  · obtain ⟨d, rfl⟩ : ∃ d, v = S + (d + 1) := ⟨v - S - 1, by omega⟩
    rw [Nat.pow_add] at h
    have := Nat.eq_of_mul_eq_mul_left (Nat.pow_pos (by decide)) h
    rw [Nat.pow_succ] at this
    omega
  · exact g
  · obtain ⟨d, rfl⟩ : ∃ d, S = v + (d + 1) := ⟨S - v - 1, by omega⟩
    rw [Nat.pow_add, Nat.mul_assoc] at h
    have h2 : 2 ^ v * 1 = 2 ^ v * (2 ^ (d + 1) * (2 * m + 1)) := by rw [Nat.mul_one]; exact h
    have := Nat.eq_of_mul_eq_mul_left (Nat.pow_pos (by decide)) h2
    have h3 : 2 ^ (d + 1) * (2 * m + 1) % 2 = 1 := by rw [← this]
    rw [Nat.pow_succ, Nat.mul_right_comm, Nat.mul_mod_left] at h3
    omega

set_option maxRecDepth 100000 in
theorem vars_any (n v cap : Nat) (a : Option Addr) (w : World) (hv : v ≤ 12) (hn : n = 2 ^ v) (hT : TabAt 2 Lib.deBruijn64tab w) :
    Calls Tryz.prog 76 #[.slice a n cap] w fun e w' => e = .returned (.int .i64 (v : Int)) ∧ w' = w := by
  have h1 := pow_12 hv
  have h0 : 0 < 2 ^ v := Nat.pow_pos (by decide)
  have HZ : Hid (Calls Tryz.prog 107 #[.int .u64 (n : Int)] w fun e w' => e = .returned (.int .i64 (v : Int)) ∧ w' = w) := by
    refine (tz_any n (by omega) (by omega) w hT).mono ?_
    rintro e w' ⟨S, m, rfl, _, h, hw⟩
    rw [hn] at h
    rw [pow_odd h]
    exact ⟨rfl, hw⟩
  have hn2 : n ≤ 4096 := by omega
  clear hn hT h1 h0
  go_enter Tryz.func76, Tryz.ntmps76
  go_wp2_with fail
  refine HZ.out.mono ?_
  rintro e w1 ⟨rfl, rfl⟩
  go_wp2_with fail
  go_ret
  exact ⟨rfl, rfl⟩

end Go.Proofs.YtpgnabmkfkcogaaGreatDoor
