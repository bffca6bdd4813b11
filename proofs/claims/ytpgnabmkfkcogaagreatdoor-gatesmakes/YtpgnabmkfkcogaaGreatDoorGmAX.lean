/- The reference of package gates: Fault. The reference of package gates: Wire. The reference of package gates: Check. -/
import Derived.Test.YtpgnabmkfkcogaaGreatDoorGmAT
import Derived.Test.YtpgnabmkfkcogaaGreatDoorGmAN
import Derived.Test.YtpgnabmkfkcogaaGreatDoorGmAM
import Derived.Test.YtpgnabmkfkcogaaGreatDoorGmAW
namespace Go.Proofs.YtpgnabmkfkcogaaGreatDoor
open Go.RowKit

set_option maxRecDepth 100000 in
set_option maxHeartbeats 1000000 in
theorem rfault13_a (cL : Nat) (wide : Int) (aL : Option Addr) (lys : List (List GatZ)) (w : World) (hB : CirB lys) (hno : ¬ ((0 ≤ wide ∧ wide ≤ 6) ∧ (1 ≤ lys.length ∧ lys.length ≤ 8))) :
    Calls Tryz.prog 30 #[.agg #[.int .i64 wide, .slice aL lys.length cL]] w fun e w' => e = .returned (.int .i64 2) ∧ Below w.heap.size w w' := by
  obtain ⟨W0, hW0⟩ : ∃ W0, W0 = w.alloc (.cells #[.int .i64 wide, .slice aL lys.length cL] 69) := ⟨_, rfl⟩
  obtain ⟨hb0, hs0, hz0⟩ := own_blk hW0
  obtain ⟨G, hG⟩ : ∃ G, G = w.heap.size := ⟨_, rfl⟩
  rw [← hG] at hs0
  have HC : Hid (∀ W, Below W0.heap.size W0 W → W.cell? ⟨G, 0, none⟩ = some (.int .i64 wide) ∧ W.cell? ⟨G, 1, none⟩ = some (.slice aL lys.length cL)) := fun W hW => by
    have e1 := (hW.block G (Array.getElem?_eq_some_iff.1 hs0).1).trans hs0
    exact ⟨by simp [World.cell?, e1], by simp [World.cell?, e1]⟩
  have HB0 := hid hb0
  have HWG := hid hW0
  have HG := hid hG
  obtain ⟨c0, c1⟩ := HC.out W0 (Below.refl _ _)
  have hlen := hB.len
  clear hB hW0 hs0 hz0 hb0 hG
  generalize lys.length = n at *
  by_cases h1 : wide < 0
  · clear hno
    go_enter Tryz.func30, Tryz.ntmps30
    go_wp2_with fail
    rw [← HWG.out]
    clear HWG
    go_ret
    exact ⟨rfl, HB0.out⟩
  · by_cases h2 : 6 < wide
    · clear hno
      go_enter Tryz.func30, Tryz.ntmps30
      go_wp2_with fail
      rw [← HWG.out]
      clear HWG
      go_ret
      exact ⟨rfl, HB0.out⟩
    · by_cases h3 : n < 1
      · have h3' : (n : Int) < 1 := by omega
        clear hno h3
        go_enter Tryz.func30, Tryz.ntmps30
        go_wp2_with fail
        rw [← HWG.out]
        clear HWG
        go_ret
        exact ⟨rfl, HB0.out⟩
      · have h3' : ¬ (n : Int) < 1 := by omega
        have h4' : (8 : Int) < (n : Int) := by omega
        clear hno h3
        go_enter Tryz.func30, Tryz.ntmps30
        go_wp2_with fail
        rw [← HWG.out]
        clear HWG
        go_ret
        exact ⟨rfl, HB0.out⟩

set_option maxRecDepth 100000 in
set_option maxHeartbeats 1000000 in
theorem rfault13_b (cL : Nat) (wide : Int) (aL : Option Addr) (lys : List (List GatZ)) (w : World) (hB : CirB lys) (hl : LstGG w.heap.size w aL cL lys) (hS0 : (0 ≤ wide ∧ wide ≤ 6) ∧ (1 ≤ lys.length ∧ lys.length ≤ 8)) (hno : ¬ ∀ k, k < lys.length → 0 ≤ wdz (lyt lys k).length) :
    Calls Tryz.prog 30 #[.agg #[.int .i64 wide, .slice aL lys.length cL]] w fun e w' => e = .returned (.int .i64 2) ∧ Below w.heap.size w w' := by
  obtain ⟨W0, hW0⟩ : ∃ W0, W0 = w.alloc (.cells #[.int .i64 wide, .slice aL lys.length cL] 69) := ⟨_, rfl⟩
  obtain ⟨hb0, hs0, hz0⟩ := own_blk hW0
  obtain ⟨G, hG⟩ : ∃ G, G = w.heap.size := ⟨_, rfl⟩
  rw [← hG] at hs0
  have HC : Hid (∀ W, Below W0.heap.size W0 W → W.cell? ⟨G, 0, none⟩ = some (.int .i64 wide) ∧ W.cell? ⟨G, 1, none⟩ = some (.slice aL lys.length cL)) := fun W hW => by
    have e1 := (hW.block G (Array.getElem?_eq_some_iff.1 hs0).1).trans hs0
    exact ⟨by simp [World.cell?, e1], by simp [World.cell?, e1]⟩
  have HB0 := hid hb0
  have HWG := hid hW0
  have HG := hid hG
  obtain ⟨c0, c1⟩ := HC.out W0 (Below.refl _ _)
  have hlen := hB.len
  have HLL : Hid (LstGG W0.heap.size W0 aL cL lys) := hl.step hb0
  have HNO := hid hno
  obtain ⟨n, hnn⟩ : ∃ n, n = lys.length := ⟨_, rfl⟩
  have HN := hid hnn
  simp only [← hnn] at HNO c1 hlen HWG hS0 HC ⊢
  obtain ⟨⟨h1, h2⟩, h3, h4⟩ := hS0
  have h1' : ¬ wide < 0 := by omega
  have h2' : ¬ 6 < wide := by omega
  have h3' : ¬ (n : Int) < 1 := by omega
  have h4' : ¬ (8 : Int) < (n : Int) := by omega
  clear hl hB hW0 hs0 hz0 hb0 hG hno hnn h1 h2 h3
  go_enter Tryz.func30, Tryz.ntmps30
  go_wp2_with fail
  rw [← HG.out, ← HWG.out]
  clear HWG
  go_loop [3, 4] (fun iv _ => ∃ k : Nat, k ≤ n ∧ iv = .int .i64 (k : Int) ∧ Hid (∀ j, j < k → 0 ≤ wdz (lyt lys j).length)) (fun iv _ => n - (intOf iv).toNat)
  case atStart => exact ⟨0, by omega, rfl, fun j hj => by omega⟩
  case round =>
    obtain ⟨k, hk, rfl, hI⟩ := hrel
    by_cases hlt : k < n
    · have hlt2 : (k : Int) < (n : Int) := by omega
      have hks : IntKind.i64.wrap ((k : Int) + 1) = (k : Int) + 1 := by rw [IntKind.wrap_i64]; omega
      obtain ⟨b0, o0, ak, ck, rfl, hb0, hc, _⟩ := HLL.out.row k (by rw [← HN.out]; exact hlt)
      have HW := hid (rwide13_any (lyt lys k).length W0)
      by_cases hw : 0 ≤ wdz (lyt lys k).length
      · have hw2 : ¬ wdz (lyt lys k).length < 0 := by omega
        have HE : Hid (∀ j, j < k + 1 → 0 ≤ wdz (lyt lys j).length) := fun j hj => by
          by_cases e : j = k
          · rw [e]; exact hw
          · exact hI.out j (by omega)
        generalize wdz (lyt lys k).length = X at *
        generalize (lyt lys k).length = L at *
        clear hI hw
        go_wp2_with fail
        refine HW.out.mono ?_
        rintro e w1 ⟨rfl, hw⟩
        have hw1 := hw.symm
        subst hw1
        clear hw
        go_wp2_with fail
        go_round
        case rel => exact ⟨k + 1, by omega, by go_num, HE.out⟩
        case measure => simp [intOf]; omega
      · have hw2 : wdz (lyt lys k).length < 0 := by omega
        generalize wdz (lyt lys k).length = X at *
        generalize (lyt lys k).length = L at *
        clear hI hw
        go_wp2_with fail
        refine HW.out.mono ?_
        rintro e w1 ⟨rfl, hw⟩
        have hw1 := hw.symm
        subst hw1
        clear hw
        go_wp2_with fail
        go_ret
        exact ⟨rfl, HB0.out⟩
    · obtain rfl : k = n := by omega
      exact absurd hI.out HNO.out

set_option maxRecDepth 100000 in
set_option maxHeartbeats 4000000 in
theorem rfault13_c (cL : Nat) (wide : Int) (aL : Option Addr) (lys : List (List GatZ)) (w : World) (hB : CirB lys) (hl : LstGG w.heap.size w aL cL lys) (hS : SzC wide lys) :
    Calls Tryz.prog 30 #[.agg #[.int .i64 wide, .slice aL lys.length cL]] w fun e w' => e = .returned (.int .i64 (flt wide lys)) ∧ Below w.heap.size w w' := by
  obtain ⟨W0, hW0⟩ : ∃ W0, W0 = w.alloc (.cells #[.int .i64 wide, .slice aL lys.length cL] 69) := ⟨_, rfl⟩
  obtain ⟨hb0, hs0, hz0⟩ := own_blk hW0
  obtain ⟨G, hG⟩ : ∃ G, G = w.heap.size := ⟨_, rfl⟩
  rw [← hG] at hs0
  have HC : Hid (∀ W, Below W0.heap.size W0 W → W.cell? ⟨G, 0, none⟩ = some (.int .i64 wide) ∧ W.cell? ⟨G, 1, none⟩ = some (.slice aL lys.length cL)) := fun W hW => by
    have e1 := (hW.block G (Array.getElem?_eq_some_iff.1 hs0).1).trans hs0
    exact ⟨by simp [World.cell?, e1], by simp [World.cell?, e1]⟩
  have HB0 := hid hb0
  have HWG := hid hW0
  have HG := hid hG
  obtain ⟨c0, c1⟩ := HC.out W0 (Below.refl _ _)
  have hlen := hB.len
  have HLL : Hid (LstGG W0.heap.size W0 aL cL lys) := hl.step hb0
  have HSC := hid hS
  have HLS : Hid (∀ W, Below W0.heap.size W0 W → LstGG W0.heap.size W aL cL lys) := fun W hW => HLL.out.below hW
  have HBN : Hid (∀ W i, Below W0.heap.size W0 W → i ≤ lys.length → Calls Tryz.prog 84 #[.agg #[.int .i64 wide, .slice aL lys.length cL], .int .i64 (i : Int)] W fun e w' => e = .returned (.int .i64 (bnn wide lys i : Int)) ∧ Below W.heap.size W w') := fun W i hW hi => by
    have := rbeneath_any i cL wide aL lys W hB (HLL.out.step hW) hi
    rw [(hS.bn hi).1] at this
    exact this
  have HB6 : Hid (∀ i, i ≤ lys.length → bnn wide lys i ≤ 6) := fun i hi => (hS.bn hi).2
  have HXL : Hid (∀ k, k < lys.length → (lyt lys k).length ≤ 64) := fun k hk => by rw [(hS.own hk).1]; exact pow_6 (hS.bn (by omega)).2
  have HNO : Hid (∀ i k, i < lys.length → k < (lyt lys i).length → ¬ GtO (2 ^ bnn wide lys i) (gat (lyt lys i) k) → flt wide lys = 3) := fun i k hi hk hd => flt_range hS (fun h => hd (h i hi k hk))
  have HYE : Hid ((∀ i, i < lys.length → ∀ k, k < (lyt lys i).length → GtO (2 ^ bnn wide lys i) (gat (lyt lys i) k)) → flt wide lys = 0) := fun h => flt_none hS h
  obtain ⟨n, hnn⟩ : ∃ n, n = lys.length := ⟨_, rfl⟩
  have HN := hid hnn
  have hS0 := And.intro hS.1 hS.2.1
  have HSZ := hid hS.2.2
  simp only [← hnn] at c1 hlen HWG hS0 HC HBN HB6 HXL HNO HYE HSZ ⊢
  obtain ⟨⟨h1, h2⟩, h3, h4⟩ := hS0
  have h1' : ¬ wide < 0 := by omega
  have h2' : ¬ 6 < wide := by omega
  have h3' : ¬ (n : Int) < 1 := by omega
  have h4' : ¬ (8 : Int) < (n : Int) := by omega
  generalize flt wide lys = D at *
  generalize bnn wide lys = bn at *
  clear hl hB hW0 hs0 hz0 hb0 hG hnn h1 h2 h3 hS
  go_enter Tryz.func30, Tryz.ntmps30
  go_wp2_with fail
  rw [← HG.out, ← HWG.out]
  clear HWG
  go_loop [3, 4] (fun iv _ => ∃ k : Nat, k ≤ n ∧ iv = .int .i64 (k : Int) ∧ Hid (∀ j, j < k → 0 ≤ wdz (lyt lys j).length)) (fun iv _ => n - (intOf iv).toNat)
  case atStart => exact ⟨0, by omega, rfl, fun j hj => by omega⟩
  case round =>
    obtain ⟨k, hk, rfl, hI⟩ := hrel
    by_cases hlt : k < n
    · have hlt2 : (k : Int) < (n : Int) := by omega
      have hks : IntKind.i64.wrap ((k : Int) + 1) = (k : Int) + 1 := by rw [IntKind.wrap_i64]; omega
      obtain ⟨b0, o0, ak, ck, rfl, hb0, hc, _⟩ := HLL.out.row k (by rw [← HN.out]; exact hlt)
      have HW := hid (rwide13_any (lyt lys k).length W0)
      have hw2 : ¬ wdz (lyt lys k).length < 0 := by have := HSZ.out k hlt; omega
      generalize wdz (lyt lys k).length = X at *
      generalize (lyt lys k).length = L at *
      clear hI
      go_wp2_with fail
      refine HW.out.mono ?_
      rintro e w1 ⟨rfl, hw⟩
      have hw1 := hw.symm
      subst hw1
      clear hw
      go_wp2_with fail
      go_round
      case rel => exact ⟨k + 1, by omega, by go_num, fun j hj => HSZ.out j (by omega)⟩
      case measure => simp [intOf]; omega
    · obtain rfl : k = n := by omega
      have hlt2 : ¬ (k : Int) < (k : Int) := by omega
      clear hI HLL
      go_wp2_with fail
      go_loopw [5, 6, 7, 8, 9, 10] (fun iv _ _ _ _ _ wr => ∃ i : Nat, i ≤ k ∧ iv = .int .i64 (i : Int) ∧ Hid (Below W0.heap.size W0 wr ∧ ∀ m, m < i → ∀ j, j < (lyt lys m).length → GtO (2 ^ bn m) (gat (lyt lys m) j))) (fun iv _ _ _ _ _ _ => k - (intOf iv).toNat)
      case atStart => exact ⟨0, by omega, rfl, Below.refl _ _, fun m hm => by omega⟩
      case round =>
        obtain ⟨i, hi, rfl, hI⟩ := hrel
        obtain ⟨c0, c1⟩ := HC.out wr hI.out.1
        by_cases hit : i < k
        · have hit2 : (i : Int) < (k : Int) := by omega
          have his : IntKind.i64.wrap ((i : Int) + 1) = (i : Int) + 1 := by rw [IntKind.wrap_i64]; omega
          have HBX := hid (HBN.out wr i hI.out.1 (by omega))
          have hb6 := HB6.out i (by omega)
          have HI1 := hid hI.out.1
          have HI2 := hid hI.out.2
          obtain ⟨q, hq⟩ : ∃ q, q = bn i := ⟨_, rfl⟩
          have HQ := hid hq
          rw [← hq] at HBX hb6
          clear hI hq
          go_wp2_with fail
          refine HBX.out.mono ?_
          rintro e w1 ⟨rfl, hb1⟩
          have HB1 : Hid (Below W0.heap.size W0 w1) := HI1.out.trans (hb1.mono HI1.out.size)
          clear hb1 HBX c0 c1 HI1
          go_wp2_with fail
          go_loop [7, 8] (fun xv jv => ∃ j : Nat, j ≤ q ∧ jv = .int .i64 (j : Int) ∧ ∃ X : Nat, xv = .int .i64 (X : Int) ∧ X ≤ 64 ∧ Hid (X = 2 ^ j)) (fun _ jv => q - (intOf jv).toNat)
          case atStart => exact ⟨0, by omega, rfl, 1, rfl, by omega, rfl⟩
          case round =>
            obtain ⟨j, hj, rfl, X, rfl, hX, hJ⟩ := hrel
            by_cases hjt : j < q
            · have hjt2 : (j : Int) < (q : Int) := by omega
              have hjs : IntKind.i64.wrap ((j : Int) + 1) = (j : Int) + 1 := by rw [IntKind.wrap_i64]; omega
              have hw : IntKind.i64.wrap ((X : Int) * 2) = (X : Int) * 2 := by rw [IntKind.wrap_i64]; omega
              have HX2 : Hid (2 * X = 2 ^ (j + 1)) := by unfold Hid; rw [Nat.pow_succ, hJ.out, Nat.mul_comm]
              have hX64 : 2 * X ≤ 64 := by rw [HX2.out]; exact pow_6 (by omega)
              clear hJ
              go_wp2_with fail
              go_round
              case rel => exact ⟨j + 1, by omega, by go_num, 2 * X, by simp; omega, hX64, HX2.out⟩
              case measure => simp [intOf]; omega
            · obtain rfl : j = q := by omega
              have hjt2 : ¬ (j : Int) < (j : Int) := by omega
              obtain ⟨Y, hY⟩ : ∃ Y, Y = X := ⟨_, rfl⟩
              subst hY
              have HLK := HXL.out i hit
              have HYQ : Hid (Y = 2 ^ bn i) := by unfold Hid; rw [← HQ.out]; exact hJ.out
              have HNK : Hid (∀ s, s < (lyt lys i).length → ¬ GtO Y (gat (lyt lys i) s) → D = 3) := fun s hs => by rw [HYQ.out]; exact HNO.out i s hit hs
              obtain ⟨L, hL⟩ : ∃ L, L = (lyt lys i).length := ⟨_, rfl⟩
              have HLE := hid hL
              simp only [← hL] at HNK HLK
              clear hJ hL
              go_wp2_with fail
              go_loopw [9, 10] (fun jv _ wi => ∃ j : Nat, j ≤ L ∧ jv = .int .i64 (j : Int) ∧ Hid (Below W0.heap.size W0 wi ∧ ∀ s, s < j → GtO Y (gat (lyt lys i) s))) (fun jv _ _ => L - (intOf jv).toNat)
              case atStart => exact ⟨0, by omega, rfl, HB1.out, fun s hs => by omega⟩
              case round =>
                obtain ⟨j, hj, rfl, hJ⟩ := hrel
                obtain ⟨c0, c1⟩ := HC.out wr hJ.out.1
                obtain ⟨b0, o0, ak, ck, rfl, hb0, hc, hg⟩ := (HLS.out wr hJ.out.1).row i (by rw [← HN.out]; exact hit)
                rw [← HLE.out] at hc
                by_cases hjt : j < L
                · have hjt2 : (j : Int) < (L : Int) := by omega
                  have hjs : IntKind.i64.wrap ((j : Int) + 1) = (j : Int) + 1 := by rw [IntKind.wrap_i64]; omega
                  obtain ⟨b1, o1, rfl, hb1, g0, g1, g2⟩ := hg.row j (by rw [← HLE.out]; exact hjt)
                  have HNJ := hid (HNK.out j hjt)
                  have HJ2 : Hid (GtO Y (gat (lyt lys i) j) → ∀ s, s < j + 1 → GtO Y (gat (lyt lys i) s)) := fun h s hs => by
                    by_cases e : s = j
                    · rw [e]; exact h
                    · exact hJ.out.2 s (by omega)
                  generalize gat (lyt lys i) j = g at *
                  obtain ⟨xk, xa, xb⟩ := g
                  simp only at g0 g1 g2
                  obtain ⟨W2, hW2⟩ : ∃ W2, W2 = wr.alloc (.cells #[.int .i64 xk, .int .i64 xa, .int .i64 xb] 85) := ⟨_, rfl⟩
                  obtain ⟨hb2, hs2, hz2⟩ := own_blk hW2
                  have HB2 : Hid (Below W0.heap.size W0 W2) := hJ.out.1.trans (hb2.mono hJ.out.1.size)
                  have HEW : Hid (Below w.heap.size w W2) := HB0.out.trans (HB2.out.mono HB0.out.size)
                  clear hb2 hs2 hz2 hg
                  by_cases t0 : xk < 0
                  · have HE : Hid (D = 3) := HNJ.out (fun h => by have h1 := h.1.1; have h2 := h.1.2; have h3 := h.2.1.1; have h4 := h.2.1.2; have h5 := h.2.2.1; have h6 := h.2.2.2; simp only at h1 h2 h3 h4 h5 h6; omega)
                    clear hJ
                    go_wp2_with fail
                    rw [← hW2]
                    clear hW2
                    go_ret
                    exact ⟨by rw [HE.out]; rfl, HEW.out⟩
                  ·
                    by_cases t1 : 1 < xk
                    · have HE : Hid (D = 3) := HNJ.out (fun h => by have h1 := h.1.1; have h2 := h.1.2; have h3 := h.2.1.1; have h4 := h.2.1.2; have h5 := h.2.2.1; have h6 := h.2.2.2; simp only at h1 h2 h3 h4 h5 h6; omega)
                      clear hJ
                      go_wp2_with fail
                      rw [← hW2]
                      clear hW2
                      go_ret
                      exact ⟨by rw [HE.out]; rfl, HEW.out⟩
                    ·
                      by_cases t2 : xa < 0
                      · have HE : Hid (D = 3) := HNJ.out (fun h => by have h1 := h.1.1; have h2 := h.1.2; have h3 := h.2.1.1; have h4 := h.2.1.2; have h5 := h.2.2.1; have h6 := h.2.2.2; simp only at h1 h2 h3 h4 h5 h6; omega)
                        clear hJ
                        go_wp2_with fail
                        rw [← hW2]
                        clear hW2
                        go_ret
                        exact ⟨by rw [HE.out]; rfl, HEW.out⟩
                      ·
                        by_cases t3 : (Y : Int) ≤ xa
                        · have HE : Hid (D = 3) := HNJ.out (fun h => by have h1 := h.1.1; have h2 := h.1.2; have h3 := h.2.1.1; have h4 := h.2.1.2; have h5 := h.2.2.1; have h6 := h.2.2.2; simp only at h1 h2 h3 h4 h5 h6; omega)
                          clear hJ
                          go_wp2_with fail
                          rw [← hW2]
                          clear hW2
                          go_ret
                          exact ⟨by rw [HE.out]; rfl, HEW.out⟩
                        ·
                          by_cases t4 : xb < 0
                          · have HE : Hid (D = 3) := HNJ.out (fun h => by have h1 := h.1.1; have h2 := h.1.2; have h3 := h.2.1.1; have h4 := h.2.1.2; have h5 := h.2.2.1; have h6 := h.2.2.2; simp only at h1 h2 h3 h4 h5 h6; omega)
                            clear hJ
                            go_wp2_with fail
                            rw [← hW2]
                            clear hW2
                            go_ret
                            exact ⟨by rw [HE.out]; rfl, HEW.out⟩
                          ·
                            by_cases t5 : (Y : Int) ≤ xb
                            · have HE : Hid (D = 3) := HNJ.out (fun h => by have h1 := h.1.1; have h2 := h.1.2; have h3 := h.2.1.1; have h4 := h.2.1.2; have h5 := h.2.2.1; have h6 := h.2.2.2; simp only at h1 h2 h3 h4 h5 h6; omega)
                              clear hJ
                              go_wp2_with fail
                              rw [← hW2]
                              clear hW2
                              go_ret
                              exact ⟨by rw [HE.out]; rfl, HEW.out⟩
                            ·
                              have HE := hid (HJ2.out ⟨⟨by show 0 ≤ xk; omega, by show xk ≤ 1; omega⟩, ⟨by show 0 ≤ xa; omega, by show xa < _; omega⟩, by show 0 ≤ xb; omega, by show xb < _; omega⟩)
                              clear hJ
                              go_wp2_with fail
                              rw [← hW2]
                              clear hW2
                              go_roundw
                              case rel => exact ⟨j + 1, by omega, by go_num, HB2.out, HE.out⟩
                              case measure => simp [intOf]; omega
                · obtain rfl : j = L := by omega
                  have hjt2 : ¬ (j : Int) < (j : Int) := by omega
                  have HE : Hid (Below W0.heap.size W0 wr ∧ ∀ m, m < i + 1 → ∀ s, s < (lyt lys m).length → GtO (2 ^ bn m) (gat (lyt lys m) s)) := ⟨hJ.out.1, fun m hm s hs => by
                    by_cases e : m = i
                    · subst e
                      rw [← HYQ.out]
                      exact hJ.out.2 s (by rw [HLE.out]; exact hs)
                    · exact HI2.out m (by omega) s hs⟩
                  clear hJ hg
                  go_wp2_with fail
                  go_roundw
                  case rel => exact ⟨i + 1, by omega, by go_num, HE.out⟩
                  case measure => simp [intOf]; omega
        · obtain rfl : i = k := by omega
          have hit2 : ¬ (i : Int) < (i : Int) := by omega
          have HE : Hid (D = 0 ∧ Below w.heap.size w wr) := ⟨HYE.out (fun m hm s hs => hI.out.2 m hm s hs), HB0.out.trans (hI.out.1.mono HB0.out.size)⟩
          clear hI
          go_wp2_with fail
          go_ret
          exact ⟨by rw [HE.out.1]; rfl, HE.out.2⟩

theorem rfault13_any (cL : Nat) (wide : Int) (aL : Option Addr) (lys : List (List GatZ)) (w : World) (hB : CirB lys) (hl : LstGG w.heap.size w aL cL lys) :
    Calls Tryz.prog 30 #[.agg #[.int .i64 wide, .slice aL lys.length cL]] w fun e w' => e = .returned (.int .i64 (flt wide lys)) ∧ Below w.heap.size w w' := by
  by_cases h0 : (0 ≤ wide ∧ wide ≤ 6) ∧ (1 ≤ lys.length ∧ lys.length ≤ 8)
  · by_cases h1 : ∀ k, k < lys.length → 0 ≤ wdz (lyt lys k).length
    · exact rfault13_c cL wide aL lys w hB hl ⟨h0.1, h0.2, h1⟩
    · rw [flt_size (fun h => h1 h.2.2)]
      exact rfault13_b cL wide aL lys w hB hl h0 h1
  · rw [flt_size (fun h => h0 ⟨h.1, h.2.1⟩)]
    exact rfault13_a cL wide aL lys w hB h0

end Go.Proofs.YtpgnabmkfkcogaaGreatDoor

namespace Go.Proofs.YtpgnabmkfkcogaaGreatDoor
open Go.RowKit

end Go.Proofs.YtpgnabmkfkcogaaGreatDoor

namespace Go.Proofs.YtpgnabmkfkcogaaGreatDoor
open Go.RowKit

set_option maxRecDepth 100000 in
set_option maxHeartbeats 2000000 in
theorem ron_num (p c1 c2 : Nat) (a1 a2 : Option Addr) (x y : List Int) (t : Int) (w : World) (h3 : 3 ≤ p) (hm : p ≤ 2147483647) (hn : x.length ≤ 1000000) (hxy : y.length = x.length) (fx : Fits x) (fy : Fits y) (ht : i64B t) (rx : RowB w.heap.size w a1 x) (ry : RowB w.heap.size w a2 y) :
    Calls Tryz.prog 90 #[.int .i64 (p : Int), .slice a1 x.length c1, .slice a2 y.length c2, .int .i64 t] w fun e w' => ∃ a' c', e = .returned (.slice a' x.length c') ∧ NumL w' a' c' (onl p x y t) ∧ Below w.heap.size w w' := by
  rw [hxy]
  obtain ⟨f, hf⟩ : ∃ f : Nat → Int, f = fun i => (zat x i + t * (zat y i - zat x i)) % (p : Int) := ⟨_, rfl⟩
  rw [show onl p x y t = ls f x.length from by rw [hf]; rfl]
  have HFE : Hid (∀ k, (zat x k + t * ((zat y k - zat x k) % (p : Int)) % (p : Int)) % (p : Int) = f k) := fun k => by rw [hf]; exact on_eq p _ _ t
  have HX := hid fx
  have HY := hid fy
  have HRX := hid rx
  have HRY : Hid (∀ k, k < x.length → ∃ b o, a2 = some ⟨b, o, none⟩ ∧ b < w.heap.size ∧ w.cell? ⟨b, o + k, none⟩ = some (.int .i64 (zat y k))) := fun k hk => ry k (by rw [hxy]; exact hk)
  obtain ⟨n, hnn⟩ : ∃ n, n = x.length := ⟨_, rfl⟩
  have HN := hid hnn
  simp only [← hnn] at HRY hn ⊢
  clear fx fy rx ry hxy hf hnn
  go_enter Tryz.func90, Tryz.ntmps90
  go_wp2_with fail
  go_loopw [9, 10, 11] (fun v iv _ wr => ∃ k : Nat, k ≤ n ∧ iv = .int .i64 (k : Int) ∧ Hid (wr.ownsRow w.heap.size 3 1 v (ls f k).length ((ls f k).map (Value.int .i64)) ∧ Below w.heap.size w wr)) (fun _ iv _ _ => n - (intOf iv).toNat)
  case atStart => exact ⟨0, Nat.zero_le _, rfl, World.ownsRow_nil _ _ _ _, Below.refl _ _⟩
  case round =>
    obtain ⟨k, hk, rfl, hI⟩ := hrel
    by_cases hlt : k < n
    · have hlt2 : (k : Int) < (n : Int) := by omega
      have hks : IntKind.i64.wrap ((k : Int) + 1) = (k : Int) + 1 := by rw [IntKind.wrap_i64]; omega
      obtain ⟨b1, o1, rfl, hb1, hx1⟩ := HRX.out k (by rw [← HN.out]; exact hlt)
      obtain ⟨b2, o2, rfl, hb2, hy1⟩ := HRY.out k hlt
      have HSB : Hid (∀ W, Below wr.heap.size wr W → W.cell? ⟨b2, o2 + k, none⟩ = some (.int .i64 (zat y k)) ∧ W.cell? ⟨b1, o1 + k, none⟩ = some (.int .i64 (zat x k))) := fun W hW => by
        have hw := hI.out.2.trans (hW.mono hI.out.2.size)
        exact ⟨(hw.cell (p := ⟨b2, o2 + k, none⟩) hb2).trans hy1, (hw.cell (p := ⟨b1, o1 + k, none⟩) hb1).trans hx1⟩
      have HBD : Hid (Below wr.heap.size wr wr.drew) := (Below.refl _ _).drew
      obtain ⟨f1, f2⟩ := HX.out.all k
      obtain ⟨f3, f4⟩ := HY.out.all k
      have HE := hid (HFE.out k)
      have HLS := hid (ls_succ f k)
      have HLL : Hid ((ls f k).length ≤ 17592186044000) := by unfold Hid; rw [ls_len]; omega
      have HO := hid hI.out.1
      have HBW := hid hI.out.2
      generalize zat x k = X at *
      generalize zat y k = Y at *
      generalize ls f k = lk at *
      have HSU := hid (fun W => rsub_any p Y X W h3 hm f3 f4 f1 f2)
      obtain ⟨e1, e2⟩ := emod_bounds (Y - X) p h3
      have HMU := hid (fun W => rmul_any p t ((Y - X) % (p : Int)) W h3 hm ht.1 ht.2 (by omega) (by omega))
      generalize (Y - X) % (p : Int) = D1 at *
      obtain ⟨e3, e4⟩ := emod_bounds (t * D1) p h3
      have HAD := hid (fun W => radd_any p X (t * D1 % (p : Int)) W h3 hm f1 f2 (by omega) (by omega))
      generalize t * D1 % (p : Int) = D2 at *
      generalize (X + D2) % (p : Int) = D3 at *
      clear hI f1 f2 f3 f4 e1 e2 e3 e4 hb1 hx1 hb2 hy1
      go_wp2_with fail
      refine wp_region_held_drew (S := fun W => W.cell? ⟨b2, o2 + k, none⟩ = some (.int .i64 Y) ∧ W.cell? ⟨b1, o1 + k, none⟩ = some (.int .i64 X)) (by kernel_rfl) (HSB.out _ HBD.out) (fun hHeld => ?_)
      refine wpAnyH_takeU (i := 0) (v := .int .i64 (p : Int)) rfl (by kernel_rfl) (by kernel_rfl) (by kernel_rfl) (fun _ _ _ h => h) (by rfl) (fun W hC => by go_simp) hHeld ?_
      simp only [Act.put, List.setIfInBounds_toArray, List.set_cons_zero, List.set_cons_succ]
      refine wpAnyH_takeU (i := 1) (v := .slice (some ⟨b2, o2, none⟩) n c2) rfl (by kernel_rfl) (by kernel_rfl) (by kernel_rfl) (fun _ _ _ h => h) (by rfl) (fun W hC => by go_simp) hHeld ?_
      simp only [Act.put, List.setIfInBounds_toArray, List.set_cons_zero, List.set_cons_succ]
      refine wpAnyH_takeU (i := 2) (v := .int .i64 (k : Int)) rfl (by kernel_rfl) (by kernel_rfl) (by kernel_rfl) (fun _ _ _ h => h) (by rfl) (fun W hC => by go_simp) hHeld ?_
      simp only [Act.put, List.setIfInBounds_toArray, List.set_cons_zero, List.set_cons_succ]
      refine wpAnyH_takeU (i := 3) (v := .pointer (some ⟨b2, o2 + k, none⟩)) rfl (by kernel_rfl) (by kernel_rfl) (by kernel_rfl) (fun _ _ _ h => h) (by rfl) (fun W hC => by go_simp) hHeld ?_
      simp only [Act.put, List.setIfInBounds_toArray, List.set_cons_zero, List.set_cons_succ]
      refine wpAnyH_takeU (i := 4) (v := .int .i64 Y) rfl (by kernel_rfl) (by kernel_rfl) (by kernel_rfl) (fun _ _ _ h => h) (by rfl) (fun W hC => by (obtain ⟨x1, x2⟩ := hC); go_simp) hHeld ?_
      simp only [Act.put, List.setIfInBounds_toArray, List.set_cons_zero, List.set_cons_succ]
      refine wpAnyH_takeU (i := 5) (v := .slice (some ⟨b1, o1, none⟩) n c1) rfl (by kernel_rfl) (by kernel_rfl) (by kernel_rfl) (fun _ _ _ h => h) (by rfl) (fun W hC => by go_simp) hHeld ?_
      simp only [Act.put, List.setIfInBounds_toArray, List.set_cons_zero, List.set_cons_succ]
      refine wpAnyH_takeU (i := 6) (v := .int .i64 (k : Int)) rfl (by kernel_rfl) (by kernel_rfl) (by kernel_rfl) (fun _ _ _ h => h) (by rfl) (fun W hC => by go_simp) hHeld ?_
      simp only [Act.put, List.setIfInBounds_toArray, List.set_cons_zero, List.set_cons_succ]
      refine wpAnyH_takeU (i := 7) (v := .pointer (some ⟨b1, o1 + k, none⟩)) rfl (by kernel_rfl) (by kernel_rfl) (by kernel_rfl) (fun _ _ _ h => h) (by rfl) (fun W hC => by go_simp) hHeld ?_
      simp only [Act.put, List.setIfInBounds_toArray, List.set_cons_zero, List.set_cons_succ]
      refine wpAnyH_takeU (i := 8) (v := .int .i64 X) rfl (by kernel_rfl) (by kernel_rfl) (by kernel_rfl) (fun _ _ _ h => h) (by rfl) (fun W hC => by (obtain ⟨x1, x2⟩ := hC); go_simp) hHeld ?_
      simp only [Act.put, List.setIfInBounds_toArray, List.set_cons_zero, List.set_cons_succ]
      refine wpAnyH_ready (rs := [9]) (by kernel_rfl) (by simp) ?_
      refine AllReadyH.consU rfl (fun K' hK' => ?_) AllReadyH.nil
      go_simp
      refine (HSU.out wr.drew).mono ?_
      rintro e w3 ⟨rfl, hw⟩
      have hw1 := hw.symm
      subst hw1
      clear hw
      refine hK'.out _ _ (HSB.out _ HBD.out) (fun hHeld => ?_)
      clear hK' K'
      refine wpAnyH_ready (rs := [10]) (by kernel_rfl) (by simp) ?_
      refine AllReadyH.consU rfl (fun K' hK' => ?_) AllReadyH.nil
      go_simp
      refine hK'.out _ _ (HSB.out _ HBD.out) (fun hHeld => ?_)
      clear hK' K'
      refine wpAnyH_done (by kernel_rfl) ?_ _
      have hx4 := (HSB.out _ HBD.out).2
      have HBW2 : Hid (Below w.heap.size w wr.drew) := HBW.out.drew
      generalize wr.drew = WD at *
      go_wp2_with fail
      refine (HMU.out WD).mono ?_
      rintro e w4 ⟨rfl, hw⟩
      have hw1 := hw.symm
      subst hw1
      clear hw
      go_wp2_with fail
      refine (HAD.out WD).mono ?_
      rintro e w4 ⟨rfl, hw⟩
      have hw1 := hw.symm
      subst hw1
      clear hw
      have HO2 : Hid ((WD.alloc (.cells #[.int .i64 D3] 3)).ownsRow w.heap.size 3 1 _ lk.length (lk.map (Value.int .i64))) := (own_step HO.out HBD.out).alloc _
      have HC : Hid ((WD.alloc (.cells #[.int .i64 D3] 3)).cell? ⟨WD.heap.size, 0, none⟩ = some (.int .i64 D3)) := by unfold Hid; simp
      have HS : Hid (w.heap.size ≤ (WD.alloc (.cells #[.int .i64 D3] 3)).heap.size) := by have := HBW2.out.size; unfold Hid; simp; omega
      have HB2 : Hid (Below w.heap.size w (WD.alloc (.cells #[.int .i64 D3] 3))) := HBW2.out.alloc HBW2.out.size _
      clear HO HSB hx4 HMU HAD HSU
      go_wp2_with (at_builtin; refine wpList_append1 (WD.alloc (.cells #[.int .i64 D3] 3)) w.heap.size WD.heap.size D3 rfl _ _ rfl _ rfl lk HO2.out rfl HC.out HLL.out HS.out ?_)
      intro v' w5 ho5 _ _ hb5
      have HR : Hid (w5.ownsRow w.heap.size 3 1 v' (ls f (k + 1)).length ((ls f (k + 1)).map (Value.int .i64)) ∧ Below w.heap.size w w5) := by
        unfold Hid
        rw [HLS.out, ← HE.out, List.length_append, List.map_append]
        exact ⟨ho5, HB2.out.trans hb5⟩
      clear ho5 hb5 HO2 HC HS HB2 HLS HE
      go_wp2_with fail
      go_roundw
      case rel => exact ⟨k + 1, by omega, by go_num, HR.out⟩
      case measure => simp [intOf]; omega
    · obtain rfl : k = n := by omega
      have hlt2 : ¬ (k : Int) < (k : Int) := by omega
      obtain ⟨a', c', rfl, hl⟩ := numL_of_owns hI.out.1
      rw [ls_len]
      have HL := hid hl
      have HB := hid hI.out.2
      clear hI hl
      go_wp2_with fail
      go_ret
      exact ⟨a', c', rfl, HL.out, HB.out⟩


end Go.Proofs.YtpgnabmkfkcogaaGreatDoor
