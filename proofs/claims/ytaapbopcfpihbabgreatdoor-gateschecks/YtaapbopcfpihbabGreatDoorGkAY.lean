/- The reference of package gates: Fault. The reference of package gates: Wire. -/
import Derived.Test.YtaapbopcfpihbabGreatDoorGkAX
import Derived.Test.YtaapbopcfpihbabGreatDoorGkAS
import Derived.Test.YtaapbopcfpihbabGreatDoorGkAQ
namespace Go.Proofs.YtaapbopcfpihbabGreatDoor
open Go.RowKit

set_option maxRecDepth 100000 in
set_option maxHeartbeats 1000000 in
theorem rfault13_a (cL : Nat) (wide : Int) (aL : Option Addr) (lys : List (List GatZ)) (w : World) (hB : CirB lys) (hno : ¬ ((0 ≤ wide ∧ wide ≤ 6) ∧ (1 ≤ lys.length ∧ lys.length ≤ 8))) :
    Calls Tryz.prog 21 #[.agg #[.int .i64 wide, .slice aL lys.length cL]] w fun e w' => e = .returned (.int .i64 2) ∧ Below w.heap.size w w' := by
  obtain ⟨W0, hW0⟩ : ∃ W0, W0 = w.alloc (.cells #[.int .i64 wide, .slice aL lys.length cL] 24) := ⟨_, rfl⟩
  obtain ⟨hb0, hs0, hz0⟩ := own_blk hW0
  obtain ⟨G, hG⟩ : ∃ G, G = w.heap.size := ⟨_, rfl⟩
  rw [← hG] at hs0
  have HC : Hid (∀ W, Below W0.heap.size W0 W → W.cell? ⟨G, 0, none⟩ = some (.int .i64 wide) ∧ W.cell? ⟨G, 1, none⟩ = some (.slice aL lys.length cL)) := fun W hW => by
    have e1 := (hW.block G (Array.getElem?_eq_some_iff.1 hs0).1).trans hs0
    exact ⟨by simp [World.cell?, e1], by simp [World.cell?, e1]⟩
  have HB0 := hid hb0
  have HWG := hid hW0
  have HG := hid hG
  obtain ⟨c0, c1⟩ := HC.out W0 (Below.refl _ _)
  have hlen := hB.len
  clear hB hW0 hs0 hz0 hb0 hG
  generalize lys.length = n at *
  by_cases h1 : wide < 0
  · clear hno
    go_enter Tryz.func21, Tryz.ntmps21
    go_wp2_with fail
    rw [← HWG.out]
    clear HWG
    go_ret
    exact ⟨rfl, HB0.out⟩
  · by_cases h2 : 6 < wide
    · clear hno
      go_enter Tryz.func21, Tryz.ntmps21
      go_wp2_with fail
      rw [← HWG.out]
      clear HWG
      go_ret
      exact ⟨rfl, HB0.out⟩
    · by_cases h3 : n < 1
      · have h3' : (n : Int) < 1 := by omega
        clear hno h3
        go_enter Tryz.func21, Tryz.ntmps21
        go_wp2_with fail
        rw [← HWG.out]
        clear HWG
        go_ret
        exact ⟨rfl, HB0.out⟩
      · have h3' : ¬ (n : Int) < 1 := by omega
        have h4' : (8 : Int) < (n : Int) := by omega
        clear hno h3
        go_enter Tryz.func21, Tryz.ntmps21
        go_wp2_with fail
        rw [← HWG.out]
        clear HWG
        go_ret
        exact ⟨rfl, HB0.out⟩

set_option maxRecDepth 100000 in
set_option maxHeartbeats 1000000 in
theorem rfault13_b (cL : Nat) (wide : Int) (aL : Option Addr) (lys : List (List GatZ)) (w : World) (hB : CirB lys) (hl : LstGG w.heap.size w aL cL lys) (hS0 : (0 ≤ wide ∧ wide ≤ 6) ∧ (1 ≤ lys.length ∧ lys.length ≤ 8)) (hno : ¬ ∀ k, k < lys.length → 0 ≤ wdz (lyt lys k).length) :
    Calls Tryz.prog 21 #[.agg #[.int .i64 wide, .slice aL lys.length cL]] w fun e w' => e = .returned (.int .i64 2) ∧ Below w.heap.size w w' := by
  obtain ⟨W0, hW0⟩ : ∃ W0, W0 = w.alloc (.cells #[.int .i64 wide, .slice aL lys.length cL] 24) := ⟨_, rfl⟩
  obtain ⟨hb0, hs0, hz0⟩ := own_blk hW0
  obtain ⟨G, hG⟩ : ∃ G, G = w.heap.size := ⟨_, rfl⟩
  rw [← hG] at hs0
  have HC : Hid (∀ W, Below W0.heap.size W0 W → W.cell? ⟨G, 0, none⟩ = some (.int .i64 wide) ∧ W.cell? ⟨G, 1, none⟩ = some (.slice aL lys.length cL)) := fun W hW => by
    have e1 := (hW.block G (Array.getElem?_eq_some_iff.1 hs0).1).trans hs0
    exact ⟨by simp [World.cell?, e1], by simp [World.cell?, e1]⟩
  have HB0 := hid hb0
  have HWG := hid hW0
  have HG := hid hG
  obtain ⟨c0, c1⟩ := HC.out W0 (Below.refl _ _)
  have hlen := hB.len
  have HLL : Hid (LstGG W0.heap.size W0 aL cL lys) := hl.step hb0
  have HNO := hid hno
  obtain ⟨n, hnn⟩ : ∃ n, n = lys.length := ⟨_, rfl⟩
  have HN := hid hnn
  simp only [← hnn] at HNO c1 hlen HWG hS0 HC ⊢
  obtain ⟨⟨h1, h2⟩, h3, h4⟩ := hS0
  have h1' : ¬ wide < 0 := by omega
  have h2' : ¬ 6 < wide := by omega
  have h3' : ¬ (n : Int) < 1 := by omega
  have h4' : ¬ (8 : Int) < (n : Int) := by omega
  clear hl hB hW0 hs0 hz0 hb0 hG hno hnn h1 h2 h3
  go_enter Tryz.func21, Tryz.ntmps21
  go_wp2_with fail
  rw [← HG.out, ← HWG.out]
  clear HWG
  go_loop [3, 4] (fun iv _ => ∃ k : Nat, k ≤ n ∧ iv = .int .i64 (k : Int) ∧ Hid (∀ j, j < k → 0 ≤ wdz (lyt lys j).length)) (fun iv _ => n - (intOf iv).toNat)
  case atStart => exact ⟨0, by omega, rfl, fun j hj => by omega⟩
  case round =>
    obtain ⟨k, hk, rfl, hI⟩ := hrel
    by_cases hlt : k < n
    · have hlt2 : (k : Int) < (n : Int) := by omega
      have hks : IntKind.i64.wrap ((k : Int) + 1) = (k : Int) + 1 := by rw [IntKind.wrap_i64]; omega
      obtain ⟨b0, o0, ak, ck, rfl, hb0, hc, _⟩ := HLL.out.row k (by rw [← HN.out]; exact hlt)
      have HW := hid (rwide13_any (lyt lys k).length W0)
      by_cases hw : 0 ≤ wdz (lyt lys k).length
      · have hw2 : ¬ wdz (lyt lys k).length < 0 := by omega
        have HE : Hid (∀ j, j < k + 1 → 0 ≤ wdz (lyt lys j).length) := fun j hj => by
          by_cases e : j = k
          · rw [e]; exact hw
          · exact hI.out j (by omega)
        generalize wdz (lyt lys k).length = X at *
        generalize (lyt lys k).length = L at *
        clear hI hw
        go_wp2_with fail
        refine HW.out.mono ?_
        rintro e w1 ⟨rfl, hw⟩
        have hw1 := hw.symm
        subst hw1
        clear hw
        go_wp2_with fail
        go_round
        case rel => exact ⟨k + 1, by omega, by go_num, HE.out⟩
        case measure => simp [intOf]; omega
      · have hw2 : wdz (lyt lys k).length < 0 := by omega
        generalize wdz (lyt lys k).length = X at *
        generalize (lyt lys k).length = L at *
        clear hI hw
        go_wp2_with fail
        refine HW.out.mono ?_
        rintro e w1 ⟨rfl, hw⟩
        have hw1 := hw.symm
        subst hw1
        clear hw
        go_wp2_with fail
        go_ret
        exact ⟨rfl, HB0.out⟩
    · obtain rfl : k = n := by omega
      exact absurd hI.out HNO.out

set_option maxRecDepth 100000 in
set_option maxHeartbeats 4000000 in
theorem rfault13_c (cL : Nat) (wide : Int) (aL : Option Addr) (lys : List (List GatZ)) (w : World) (hB : CirB lys) (hl : LstGG w.heap.size w aL cL lys) (hS : SzC wide lys) :
    Calls Tryz.prog 21 #[.agg #[.int .i64 wide, .slice aL lys.length cL]] w fun e w' => e = .returned (.int .i64 (flt wide lys)) ∧ Below w.heap.size w w' := by
  obtain ⟨W0, hW0⟩ : ∃ W0, W0 = w.alloc (.cells #[.int .i64 wide, .slice aL lys.length cL] 24) := ⟨_, rfl⟩
  obtain ⟨hb0, hs0, hz0⟩ := own_blk hW0
  obtain ⟨G, hG⟩ : ∃ G, G = w.heap.size := ⟨_, rfl⟩
  rw [← hG] at hs0
  have HC : Hid (∀ W, Below W0.heap.size W0 W → W.cell? ⟨G, 0, none⟩ = some (.int .i64 wide) ∧ W.cell? ⟨G, 1, none⟩ = some (.slice aL lys.length cL)) := fun W hW => by
    have e1 := (hW.block G (Array.getElem?_eq_some_iff.1 hs0).1).trans hs0
    exact ⟨by simp [World.cell?, e1], by simp [World.cell?, e1]⟩
  have HB0 := hid hb0
  have HWG := hid hW0
  have HG := hid hG
  obtain ⟨c0, c1⟩ := HC.out W0 (Below.refl _ _)
  have hlen := hB.len
  have HLL : Hid (LstGG W0.heap.size W0 aL cL lys) := hl.step hb0
  have HSC := hid hS
  have HLS : Hid (∀ W, Below W0.heap.size W0 W → LstGG W0.heap.size W aL cL lys) := fun W hW => HLL.out.below hW
  have HBN : Hid (∀ W i, Below W0.heap.size W0 W → i ≤ lys.length → Calls Tryz.prog 24 #[.agg #[.int .i64 wide, .slice aL lys.length cL], .int .i64 (i : Int)] W fun e w' => e = .returned (.int .i64 (bnn wide lys i : Int)) ∧ Below W.heap.size W w') := fun W i hW hi => by
    have := rbeneath_any i cL wide aL lys W hB (HLL.out.step hW) hi
    rw [(hS.bn hi).1] at this
    exact this
  have HB6 : Hid (∀ i, i ≤ lys.length → bnn wide lys i ≤ 6) := fun i hi => (hS.bn hi).2
  have HXL : Hid (∀ k, k < lys.length → (lyt lys k).length ≤ 64) := fun k hk => by rw [(hS.own hk).1]; exact pow_6 (hS.bn (by omega)).2
  have HNO : Hid (∀ i k, i < lys.length → k < (lyt lys i).length → ¬ GtO (2 ^ bnn wide lys i) (gat (lyt lys i) k) → flt wide lys = 3) := fun i k hi hk hd => flt_range hS (fun h => hd (h i hi k hk))
  have HYE : Hid ((∀ i, i < lys.length → ∀ k, k < (lyt lys i).length → GtO (2 ^ bnn wide lys i) (gat (lyt lys i) k)) → flt wide lys = 0) := fun h => flt_none hS h
  obtain ⟨n, hnn⟩ : ∃ n, n = lys.length := ⟨_, rfl⟩
  have HN := hid hnn
  have hS0 := And.intro hS.1 hS.2.1
  have HSZ := hid hS.2.2
  simp only [← hnn] at c1 hlen HWG hS0 HC HBN HB6 HXL HNO HYE HSZ ⊢
  obtain ⟨⟨h1, h2⟩, h3, h4⟩ := hS0
  have h1' : ¬ wide < 0 := by omega
  have h2' : ¬ 6 < wide := by omega
  have h3' : ¬ (n : Int) < 1 := by omega
  have h4' : ¬ (8 : Int) < (n : Int) := by omega
  generalize flt wide lys = D at *
  generalize bnn wide lys = bn at *
  clear hl hB hW0 hs0 hz0 hb0 hG hnn h1 h2 h3 hS
  go_enter Tryz.func21, Tryz.ntmps21
  go_wp2_with fail
  rw [← HG.out, ← HWG.out]
  clear HWG
  go_loop [3, 4] (fun iv _ => ∃ k : Nat, k ≤ n ∧ iv = .int .i64 (k : Int) ∧ Hid (∀ j, j < k → 0 ≤ wdz (lyt lys j).length)) (fun iv _ => n - (intOf iv).toNat)
  case atStart => exact ⟨0, by omega, rfl, fun j hj => by omega⟩
  case round =>
    obtain ⟨k, hk, rfl, hI⟩ := hrel
    by_cases hlt : k < n
    · have hlt2 : (k : Int) < (n : Int) := by omega
      have hks : IntKind.i64.wrap ((k : Int) + 1) = (k : Int) + 1 := by rw [IntKind.wrap_i64]; omega
      obtain ⟨b0, o0, ak, ck, rfl, hb0, hc, _⟩ := HLL.out.row k (by rw [← HN.out]; exact hlt)
      have HW := hid (rwide13_any (lyt lys k).length W0)
      have hw2 : ¬ wdz (lyt lys k).length < 0 := by have := HSZ.out k hlt; omega
      generalize wdz (lyt lys k).length = X at *
      generalize (lyt lys k).length = L at *
      clear hI
      go_wp2_with fail
      refine HW.out.mono ?_
      rintro e w1 ⟨rfl, hw⟩
      have hw1 := hw.symm
      subst hw1
      clear hw
      go_wp2_with fail
      go_round
      case rel => exact ⟨k + 1, by omega, by go_num, fun j hj => HSZ.out j (by omega)⟩
      case measure => simp [intOf]; omega
    · obtain rfl : k = n := by omega
      have hlt2 : ¬ (k : Int) < (k : Int) := by omega
      clear hI HLL
      go_wp2_with fail
      go_loopw [5, 6, 7, 8, 9, 10] (fun iv _ _ _ _ _ wr => ∃ i : Nat, i ≤ k ∧ iv = .int .i64 (i : Int) ∧ Hid (Below W0.heap.size W0 wr ∧ ∀ m, m < i → ∀ j, j < (lyt lys m).length → GtO (2 ^ bn m) (gat (lyt lys m) j))) (fun iv _ _ _ _ _ _ => k - (intOf iv).toNat)
      case atStart => exact ⟨0, by omega, rfl, Below.refl _ _, fun m hm => by omega⟩
      case round =>
        obtain ⟨i, hi, rfl, hI⟩ := hrel
        obtain ⟨c0, c1⟩ := HC.out wr hI.out.1
        by_cases hit : i < k
        · have hit2 : (i : Int) < (k : Int) := by omega
          have his : IntKind.i64.wrap ((i : Int) + 1) = (i : Int) + 1 := by rw [IntKind.wrap_i64]; omega
          have HBX := hid (HBN.out wr i hI.out.1 (by omega))
          have hb6 := HB6.out i (by omega)
          have HI1 := hid hI.out.1
          have HI2 := hid hI.out.2
          obtain ⟨q, hq⟩ : ∃ q, q = bn i := ⟨_, rfl⟩
          have HQ := hid hq
          rw [← hq] at HBX hb6
          clear hI hq
          go_wp2_with fail
          refine HBX.out.mono ?_
          rintro e w1 ⟨rfl, hb1⟩
          have HB1 : Hid (Below W0.heap.size W0 w1) := HI1.out.trans (hb1.mono HI1.out.size)
          clear hb1 HBX c0 c1 HI1
          go_wp2_with fail
          go_loop [7, 8] (fun xv jv => ∃ j : Nat, j ≤ q ∧ jv = .int .i64 (j : Int) ∧ ∃ X : Nat, xv = .int .i64 (X : Int) ∧ X ≤ 64 ∧ Hid (X = 2 ^ j)) (fun _ jv => q - (intOf jv).toNat)
          case atStart => exact ⟨0, by omega, rfl, 1, rfl, by omega, rfl⟩
          case round =>
            obtain ⟨j, hj, rfl, X, rfl, hX, hJ⟩ := hrel
            by_cases hjt : j < q
            · have hjt2 : (j : Int) < (q : Int) := by omega
              have hjs : IntKind.i64.wrap ((j : Int) + 1) = (j : Int) + 1 := by rw [IntKind.wrap_i64]; omega
              have hw : IntKind.i64.wrap ((X : Int) * 2) = (X : Int) * 2 := by rw [IntKind.wrap_i64]; omega
              have HX2 : Hid (2 * X = 2 ^ (j + 1)) := by unfold Hid; rw [Nat.pow_succ, hJ.out, Nat.mul_comm]
              have hX64 : 2 * X ≤ 64 := by rw [HX2.out]; exact pow_6 (by omega)
              clear hJ
              go_wp2_with fail
              go_round
              case rel => exact ⟨j + 1, by omega, by go_num, 2 * X, by simp; omega, hX64, HX2.out⟩
              case measure => simp [intOf]; omega
            · obtain rfl : j = q := by omega
              have hjt2 : ¬ (j : Int) < (j : Int) := by omega
              obtain ⟨Y, hY⟩ : ∃ Y, Y = X := ⟨_, rfl⟩
              subst hY
              have HLK := HXL.out i hit
              have HYQ : Hid (Y = 2 ^ bn i) := by unfold Hid; rw [← HQ.out]; exact hJ.out
              have HNK : Hid (∀ s, s < (lyt lys i).length → ¬ GtO Y (gat (lyt lys i) s) → D = 3) := fun s hs => by rw [HYQ.out]; exact HNO.out i s hit hs
              obtain ⟨L, hL⟩ : ∃ L, L = (lyt lys i).length := ⟨_, rfl⟩
              have HLE := hid hL
              simp only [← hL] at HNK HLK
              clear hJ hL
              go_wp2_with fail
              go_loopw [9, 10] (fun jv _ wi => ∃ j : Nat, j ≤ L ∧ jv = .int .i64 (j : Int) ∧ Hid (Below W0.heap.size W0 wi ∧ ∀ s, s < j → GtO Y (gat (lyt lys i) s))) (fun jv _ _ => L - (intOf jv).toNat)
              case atStart => exact ⟨0, by omega, rfl, HB1.out, fun s hs => by omega⟩
              case round =>
                obtain ⟨j, hj, rfl, hJ⟩ := hrel
                obtain ⟨c0, c1⟩ := HC.out wr hJ.out.1
                obtain ⟨b0, o0, ak, ck, rfl, hb0, hc, hg⟩ := (HLS.out wr hJ.out.1).row i (by rw [← HN.out]; exact hit)
                rw [← HLE.out] at hc
                by_cases hjt : j < L
                · have hjt2 : (j : Int) < (L : Int) := by omega
                  have hjs : IntKind.i64.wrap ((j : Int) + 1) = (j : Int) + 1 := by rw [IntKind.wrap_i64]; omega
                  obtain ⟨b1, o1, rfl, hb1, g0, g1, g2⟩ := hg.row j (by rw [← HLE.out]; exact hjt)
                  have HNJ := hid (HNK.out j hjt)
                  have HJ2 : Hid (GtO Y (gat (lyt lys i) j) → ∀ s, s < j + 1 → GtO Y (gat (lyt lys i) s)) := fun h s hs => by
                    by_cases e : s = j
                    · rw [e]; exact h
                    · exact hJ.out.2 s (by omega)
                  generalize gat (lyt lys i) j = g at *
                  obtain ⟨xk, xa, xb⟩ := g
                  simp only at g0 g1 g2
                  obtain ⟨W2, hW2⟩ : ∃ W2, W2 = wr.alloc (.cells #[.int .i64 xk, .int .i64 xa, .int .i64 xb] 45) := ⟨_, rfl⟩
                  obtain ⟨hb2, hs2, hz2⟩ := own_blk hW2
                  have HB2 : Hid (Below W0.heap.size W0 W2) := hJ.out.1.trans (hb2.mono hJ.out.1.size)
                  have HEW : Hid (Below w.heap.size w W2) := HB0.out.trans (HB2.out.mono HB0.out.size)
                  clear hb2 hs2 hz2 hg
                  by_cases t0 : xk < 0
                  · have HE : Hid (D = 3) := HNJ.out (fun h => by have h1 := h.1.1; have h2 := h.1.2; have h3 := h.2.1.1; have h4 := h.2.1.2; have h5 := h.2.2.1; have h6 := h.2.2.2; simp only at h1 h2 h3 h4 h5 h6; omega)
                    clear hJ
                    go_wp2_with fail
                    rw [← hW2]
                    clear hW2
                    go_ret
                    exact ⟨by rw [HE.out]; rfl, HEW.out⟩
                  ·
                    by_cases t1 : 1 < xk
                    · have HE : Hid (D = 3) := HNJ.out (fun h => by have h1 := h.1.1; have h2 := h.1.2; have h3 := h.2.1.1; have h4 := h.2.1.2; have h5 := h.2.2.1; have h6 := h.2.2.2; simp only at h1 h2 h3 h4 h5 h6; omega)
                      clear hJ
                      go_wp2_with fail
                      rw [← hW2]
                      clear hW2
                      go_ret
                      exact ⟨by rw [HE.out]; rfl, HEW.out⟩
                    ·
                      by_cases t2 : xa < 0
                      · have HE : Hid (D = 3) := HNJ.out (fun h => by have h1 := h.1.1; have h2 := h.1.2; have h3 := h.2.1.1; have h4 := h.2.1.2; have h5 := h.2.2.1; have h6 := h.2.2.2; simp only at h1 h2 h3 h4 h5 h6; omega)
                        clear hJ
                        go_wp2_with fail
                        rw [← hW2]
                        clear hW2
                        go_ret
                        exact ⟨by rw [HE.out]; rfl, HEW.out⟩
                      ·
                        by_cases t3 : (Y : Int) ≤ xa
                        · have HE : Hid (D = 3) := HNJ.out (fun h => by have h1 := h.1.1; have h2 := h.1.2; have h3 := h.2.1.1; have h4 := h.2.1.2; have h5 := h.2.2.1; have h6 := h.2.2.2; simp only at h1 h2 h3 h4 h5 h6; omega)
                          clear hJ
                          go_wp2_with fail
                          rw [← hW2]
                          clear hW2
                          go_ret
                          exact ⟨by rw [HE.out]; rfl, HEW.out⟩
                        ·
                          by_cases t4 : xb < 0
                          · have HE : Hid (D = 3) := HNJ.out (fun h => by have h1 := h.1.1; have h2 := h.1.2; have h3 := h.2.1.1; have h4 := h.2.1.2; have h5 := h.2.2.1; have h6 := h.2.2.2; simp only at h1 h2 h3 h4 h5 h6; omega)
                            clear hJ
                            go_wp2_with fail
                            rw [← hW2]
                            clear hW2
                            go_ret
                            exact ⟨by rw [HE.out]; rfl, HEW.out⟩
                          ·
                            by_cases t5 : (Y : Int) ≤ xb
                            · have HE : Hid (D = 3) := HNJ.out (fun h => by have h1 := h.1.1; have h2 := h.1.2; have h3 := h.2.1.1; have h4 := h.2.1.2; have h5 := h.2.2.1; have h6 := h.2.2.2; simp only at h1 h2 h3 h4 h5 h6; omega)
                              clear hJ
                              go_wp2_with fail
                              rw [← hW2]
                              clear hW2
                              go_ret
                              exact ⟨by rw [HE.out]; rfl, HEW.out⟩
                            ·
                              have HE := hid (HJ2.out ⟨⟨by show 0 ≤ xk; omega, by show xk ≤ 1; omega⟩, ⟨by show 0 ≤ xa; omega, by show xa < _; omega⟩, by show 0 ≤ xb; omega, by show xb < _; omega⟩)
                              clear hJ
                              go_wp2_with fail
                              rw [← hW2]
                              clear hW2
                              go_roundw
                              case rel => exact ⟨j + 1, by omega, by go_num, HB2.out, HE.out⟩
                              case measure => simp [intOf]; omega
                · obtain rfl : j = L := by omega
                  have hjt2 : ¬ (j : Int) < (j : Int) := by omega
                  have HE : Hid (Below W0.heap.size W0 wr ∧ ∀ m, m < i + 1 → ∀ s, s < (lyt lys m).length → GtO (2 ^ bn m) (gat (lyt lys m) s)) := ⟨hJ.out.1, fun m hm s hs => by
                    by_cases e : m = i
                    · subst e
                      rw [← HYQ.out]
                      exact hJ.out.2 s (by rw [HLE.out]; exact hs)
                    · exact HI2.out m (by omega) s hs⟩
                  clear hJ hg
                  go_wp2_with fail
                  go_roundw
                  case rel => exact ⟨i + 1, by omega, by go_num, HE.out⟩
                  case measure => simp [intOf]; omega
        · obtain rfl : i = k := by omega
          have hit2 : ¬ (i : Int) < (i : Int) := by omega
          have HE : Hid (D = 0 ∧ Below w.heap.size w wr) := ⟨HYE.out (fun m hm s hs => hI.out.2 m hm s hs), HB0.out.trans (hI.out.1.mono HB0.out.size)⟩
          clear hI
          go_wp2_with fail
          go_ret
          exact ⟨by rw [HE.out.1]; rfl, HE.out.2⟩

theorem rfault13_any (cL : Nat) (wide : Int) (aL : Option Addr) (lys : List (List GatZ)) (w : World) (hB : CirB lys) (hl : LstGG w.heap.size w aL cL lys) :
    Calls Tryz.prog 21 #[.agg #[.int .i64 wide, .slice aL lys.length cL]] w fun e w' => e = .returned (.int .i64 (flt wide lys)) ∧ Below w.heap.size w w' := by
  by_cases h0 : (0 ≤ wide ∧ wide ≤ 6) ∧ (1 ≤ lys.length ∧ lys.length ≤ 8)
  · by_cases h1 : ∀ k, k < lys.length → 0 ≤ wdz (lyt lys k).length
    · exact rfault13_c cL wide aL lys w hB hl ⟨h0.1, h0.2, h1⟩
    · rw [flt_size (fun h => h1 h.2.2)]
      exact rfault13_b cL wide aL lys w hB hl h0 h1
  · rw [flt_size (fun h => h0 ⟨h.1, h.2.1⟩)]
    exact rfault13_a cL wide aL lys w hB h0

end Go.Proofs.YtaapbopcfpihbabGreatDoor

namespace Go.Proofs.YtaapbopcfpihbabGreatDoor
open Go.RowKit

theorem wrt_two {p : Nat} {gs : List GatZ} {kind : Int} {z x y : List Int} {i : Nat} (hk : (gat gs i).kind = kind) : (Dom.sm (wrt gs kind z x y) i % (p : Int) + Sum.wgt (zat z) z.length i % (p : Int) * (Sum.wgt (zat x) x.length (gat gs i).a.toNat % (p : Int)) % (p : Int) * (Sum.wgt (zat y) y.length (gat gs i).b.toNat % (p : Int)) % (p : Int)) % (p : Int) = Dom.sm (wrt gs kind z x y) (i + 1) % (p : Int) := by
  refine emod_of_dvd ?_
  rw [Dom.sm]
  refine Sum.dvd_add_sub (Pol.emod_dvd p _) ?_
  rw [show wrt gs kind z x y i = Sum.wgt (zat z) z.length i * Sum.wgt (zat x) x.length (gat gs i).a.toNat * Sum.wgt (zat y) y.length (gat gs i).b.toNat from if_pos hk]
  generalize Sum.wgt (zat z) z.length i = u1
  generalize Sum.wgt (zat x) x.length (gat gs i).a.toNat = u2
  generalize Sum.wgt (zat y) y.length (gat gs i).b.toNat = u3
  have h12 := Sum.dvd_mul_sub (Pol.emod_dvd p u1) (Pol.emod_dvd p u2)
  have h0 := Int.dvd_add (Pol.emod_dvd p (u1 % (p : Int) * (u2 % (p : Int)))) h12
  generalize u1 % (p : Int) * (u2 % (p : Int)) = A at *
  generalize u1 * u2 = B at *
  rw [show A % (p : Int) - A + (A - B) = A % (p : Int) - B from by generalize A % (p : Int) = C; omega] at h0
  have h := Sum.dvd_mul_sub h0 (Pol.emod_dvd p u3)
  have h2 := Int.dvd_add (Pol.emod_dvd p (A % (p : Int) * (u3 % (p : Int)))) h
  generalize A % (p : Int) * (u3 % (p : Int)) = C at *
  generalize B * u3 = D at *
  rwa [show C % (p : Int) - C + (C - D) = C % (p : Int) - D from by generalize C % (p : Int) = E; omega] at h2

set_option maxRecDepth 100000 in
set_option maxHeartbeats 4000000 in
theorem rwire13_any (p cg cz cx cy : Nat) (kind : Int) (ag az ax ay : Option Addr) (gs : List GatZ) (z x y : List Int) (w : World) (h3 : 3 ≤ p) (hm : p ≤ 2147483647) (hn : gs.length ≤ 64) (hg : LstG w.heap.size w ag cg gs) (hz1 : z.length ≤ 6) (hx1 : x.length ≤ 6) (hy1 : y.length ≤ 6) (hgz : gs.length ≤ 2 ^ z.length) (ho : ∀ k, k < gs.length → (0 ≤ (gat gs k).a ∧ (gat gs k).a < ((2 ^ x.length : Nat) : Int)) ∧ (0 ≤ (gat gs k).b ∧ (gat gs k).b < ((2 ^ y.length : Nat) : Int))) (fz : Fits z) (fx : Fits x) (fy : Fits y) (rz : RowB w.heap.size w az z) (rx : RowB w.heap.size w ax x) (ry : RowB w.heap.size w ay y) :
    Calls Tryz.prog 29 #[.int .i64 (p : Int), .slice ag gs.length cg, .int .i64 kind, .slice az z.length cz, .slice ax x.length cx, .slice ay y.length cy] w fun e w' => e = .returned (.int .i64 (wrz p gs kind z x y)) ∧ Below w.heap.size w w' := by
  obtain ⟨n, hnn⟩ : ∃ n, n = gs.length := ⟨_, rfl⟩
  have HN := hid hnn
  obtain ⟨F, hF⟩ : ∃ F : Nat → Int, F = fun k => Dom.sm (wrt gs kind z x y) k % (p : Int) := ⟨_, rfl⟩
  have HFB : Hid (∀ k, 0 ≤ F k ∧ F k < p) := fun k => by rw [hF]; exact emod_bounds _ p h3
  have HF0 : Hid (F 0 = 0) := by unfold Hid; rw [hF]; rfl
  have HFS : Hid (∀ k, ¬ (gat gs k).kind = kind → F (k + 1) = F k) := fun k h => by rw [hF]; exact wrt_skip h
  have HFA : Hid (∀ k, (gat gs k).kind = kind → (F k + Sum.wgt (zat z) z.length k % (p : Int) * (Sum.wgt (zat x) x.length (gat gs k).a.toNat % (p : Int)) % (p : Int) * (Sum.wgt (zat y) y.length (gat gs k).b.toNat % (p : Int)) % (p : Int)) % (p : Int) = F (k + 1)) := fun k h => by rw [hF]; exact wrt_two h
  rw [show wrz p gs kind z x y = F n from by rw [hF, hnn]; rfl]
  rw [← hnn] at hn hgz ⊢
  have HGS := hid hg
  have HOK := hid ho
  have HWZ0 : Hid (∀ (W : World) (i : Nat), Below w.heap.size w W → i < 2 ^ z.length → Calls Tryz.prog 65 #[.int .i64 (p : Int), .int .i64 (i : Int), .slice az z.length cz] W fun e w' => e = .returned (.int .i64 (Sum.wgt (zat z) z.length i % (p : Int))) ∧ Below W.heap.size W w') := fun W i hW hi => runit_any p i cz az z W h3 hm (by omega) hi fz ((rz.below hW).mono hW.size)
  have HWX0 : Hid (∀ (W : World) (i : Nat), Below w.heap.size w W → i < 2 ^ x.length → Calls Tryz.prog 65 #[.int .i64 (p : Int), .int .i64 (i : Int), .slice ax x.length cx] W fun e w' => e = .returned (.int .i64 (Sum.wgt (zat x) x.length i % (p : Int))) ∧ Below W.heap.size W w') := fun W i hW hi => runit_any p i cx ax x W h3 hm (by omega) hi fx ((rx.below hW).mono hW.size)
  have HWY0 : Hid (∀ (W : World) (i : Nat), Below w.heap.size w W → i < 2 ^ y.length → Calls Tryz.prog 65 #[.int .i64 (p : Int), .int .i64 (i : Int), .slice ay y.length cy] W fun e w' => e = .returned (.int .i64 (Sum.wgt (zat y) y.length i % (p : Int))) ∧ Below W.heap.size W w') := fun W i hW hi => runit_any p i cy ay y W h3 hm (by omega) hi fy ((ry.below hW).mono hW.size)
  obtain ⟨Uz, hUz⟩ : ∃ U : Nat → Int, U = fun i => Sum.wgt (zat z) z.length i % (p : Int) := ⟨_, rfl⟩
  obtain ⟨Ux, hUx⟩ : ∃ U : Nat → Int, U = fun i => Sum.wgt (zat x) x.length i % (p : Int) := ⟨_, rfl⟩
  obtain ⟨Uy, hUy⟩ : ∃ U : Nat → Int, U = fun i => Sum.wgt (zat y) y.length i % (p : Int) := ⟨_, rfl⟩
  have HUB : Hid (∀ i, (0 ≤ Uz i ∧ Uz i < p) ∧ (0 ≤ Ux i ∧ Ux i < p) ∧ (0 ≤ Uy i ∧ Uy i < p)) := fun i => by rw [hUz, hUx, hUy]; exact ⟨emod_bounds _ p h3, emod_bounds _ p h3, emod_bounds _ p h3⟩
  simp only [show ∀ i, Sum.wgt (zat z) z.length i % (p : Int) = Uz i from fun i => by rw [hUz], show ∀ i, Sum.wgt (zat x) x.length i % (p : Int) = Ux i from fun i => by rw [hUx], show ∀ i, Sum.wgt (zat y) y.length i % (p : Int) = Uy i from fun i => by rw [hUy]] at HFA HWZ0 HWX0 HWY0
  generalize z.length = nz at *
  generalize x.length = nx at *
  generalize y.length = ny at *
  generalize 2 ^ nz = Nz at *
  generalize 2 ^ nx = Nx at *
  generalize 2 ^ ny = Ny at *
  clear hg ho hnn hF fz fx fy rz rx ry hUz hUx hUy hz1 hx1 hy1
  go_enter Tryz.func29, Tryz.ntmps29
  go_wp2_with fail
  go_loopw [13, 14, 15, 16, 17] (fun sv iv _ _ _ wr => ∃ k : Nat, k ≤ n ∧ iv = .int .i64 (k : Int) ∧ (∃ s : Int, sv = .int .i64 s ∧ Hid (s = F k)) ∧ Hid (Below w.heap.size w wr)) (fun _ iv _ _ _ _ => n - (intOf iv).toNat)
  case atStart => exact ⟨0, by omega, rfl, ⟨0, rfl, HF0.out.symm⟩, Below.refl _ _⟩
  case round =>
    obtain ⟨k, hk, rfl, ⟨s0, rfl, hs⟩, hI⟩ := hrel
    by_cases hlt : k < n
    · have hlt2 : (k : Int) < (n : Int) := by omega
      have hks : IntKind.i64.wrap ((k : Int) + 1) = (k : Int) + 1 := by rw [IntKind.wrap_i64]; omega
      have HGB : Hid (∀ W, Below w.heap.size w W → ∃ b1 o1, ag = some ⟨b1, o1, none⟩ ∧ W.cell? ⟨b1, o1 + k * 3, none⟩ = some (.int .i64 (gat gs k).kind) ∧ W.cell? ⟨b1, o1 + k * 3 + 1, none⟩ = some (.int .i64 (gat gs k).a) ∧ W.cell? ⟨b1, o1 + k * 3 + 2, none⟩ = some (.int .i64 (gat gs k).b)) := fun W hW => by
        obtain ⟨b1, o1, h1, _, h2⟩ := (HGS.out.below hW).row k (by rw [← HN.out]; exact hlt)
        exact ⟨b1, o1, h1, h2⟩
      obtain ⟨⟨ha0, ha1⟩, hb0', hb1'⟩ := HOK.out k (by rw [← HN.out]; exact hlt)
      have HFE := hid (HFA.out k)
      have HFN := hid (HFS.out k)
      generalize gat gs k = g at *
      obtain ⟨gk, ga0, gb0⟩ := g
      simp only at HGB ha0 hb0' ha1 hb1' HFE HFN
      obtain ⟨ga, rfl⟩ : ∃ ga : Nat, ga0 = (ga : Int) := ⟨ga0.toNat, by omega⟩
      obtain ⟨gb, rfl⟩ : ∃ gb : Nat, gb0 = (gb : Int) := ⟨gb0.toNat, by omega⟩
      rw [Int.toNat_natCast, Int.toNat_natCast] at HFE
      obtain ⟨b1, o1, rfl, g0, g1, g2⟩ := HGB.out wr hI.out
      have HGC : Hid (∀ W, Below w.heap.size w W → W.cell? ⟨b1, o1 + k * 3 + 1, none⟩ = some (.int .i64 (ga : Int)) ∧ W.cell? ⟨b1, o1 + k * 3 + 2, none⟩ = some (.int .i64 (gb : Int))) := fun W hW => by
        obtain ⟨b2, o2, e, _, e2, e3⟩ := HGB.out W hW
        injection e with e
        injection e with e4 e5 _
        subst e4
        subst e5
        exact ⟨e2, e3⟩
      by_cases hkk : gk = kind
      · subst hkk
        have hkb : (gk == gk) = true := beq_self_eq_true _
        obtain ⟨u1, hu1⟩ : ∃ u, u = Uz k := ⟨_, rfl⟩
        obtain ⟨u2, hu2⟩ : ∃ u, u = Ux ga := ⟨_, rfl⟩
        obtain ⟨u3, hu3⟩ : ∃ u, u = Uy gb := ⟨_, rfl⟩
        obtain ⟨q1, q1'⟩ := (HUB.out k).1
        obtain ⟨q2, q2'⟩ := (HUB.out ga).2.1
        obtain ⟨q3, q3'⟩ := (HUB.out gb).2.2
        have HWZ := hid (fun W h => HWZ0.out W k h (by omega))
        have HWX := hid (fun W h => HWX0.out W ga h (by omega))
        have HWY := hid (fun W h => HWY0.out W gb h (by omega))
        have HFE2 := hid (HFE.out rfl)
        rw [← hu1, ← hu2, ← hu3] at HFE2
        rw [← hu1] at HWZ q1 q1'
        rw [← hu2] at HWX q2 q2'
        rw [← hu3] at HWY q3 q3'
        obtain ⟨r1, r2⟩ := emod_bounds (u1 * u2) p h3
        have HM1 := hid (fun W => rmul_any p u1 u2 W h3 hm (by omega) (by omega) (by omega) (by omega))
        have HM2 := hid (fun W => rmul_any p (u1 * u2 % (p : Int)) u3 W h3 hm (by omega) (by omega) (by omega) (by omega))
        generalize u1 * u2 % (p : Int) = v1 at *
        obtain ⟨r3, r4⟩ := emod_bounds (v1 * u3) p h3
        obtain ⟨s1, s2⟩ := HFB.out k
        rw [← hs.out] at s1 s2 HFE2
        have HAD := hid (fun W => radd_any p s0 (v1 * u3 % (p : Int)) W h3 hm (by omega) (by omega) (by omega) (by omega))
        generalize v1 * u3 % (p : Int) = v2 at *
        generalize (s0 + v2) % (p : Int) = E at *
        have HI := hid hI.out
        clear hI hs hu1 hu2 hu3 HFN HFE q1 q1' q2 q2' q3 q3' r1 r2 r3 r4 s1 s2 HGB g1 g2 ha0 ha1 hb0' hb1'
        go_wp2_with fail
        refine (HWZ.out _ HI.out).mono ?_
        rintro e w1 ⟨rfl, hb1⟩
        have HI1 : Hid (Below w.heap.size w w1) := HI.out.trans (hb1.mono HI.out.size)
        obtain ⟨g1, _⟩ := HGC.out w1 HI1.out
        clear hb1 HI g0
        go_wp2_with fail
        refine (HWX.out _ HI1.out).mono ?_
        rintro e w2 ⟨rfl, hb2⟩
        have HI2 : Hid (Below w.heap.size w w2) := HI1.out.trans (hb2.mono HI1.out.size)
        obtain ⟨_, g2⟩ := HGC.out w2 HI2.out
        clear hb2 HI1 g1
        go_wp2_with fail
        refine (HWY.out _ HI2.out).mono ?_
        rintro e w3 ⟨rfl, hb3⟩
        have HI3 : Hid (Below w.heap.size w w3) := HI2.out.trans (hb3.mono HI2.out.size)
        clear hb3 HI2 g2
        go_wp2_with fail
        refine (HM1.out _).mono ?_
        rintro e w4 ⟨rfl, hw⟩
        have hw1 := hw.symm
        subst hw1
        clear hw
        go_wp2_with fail
        refine (HM2.out _).mono ?_
        rintro e w4 ⟨rfl, hw⟩
        have hw1 := hw.symm
        subst hw1
        clear hw
        go_wp2_with fail
        refine (HAD.out _).mono ?_
        rintro e w4 ⟨rfl, hw⟩
        have hw1 := hw.symm
        subst hw1
        clear hw
        go_wp2_with fail
        go_roundw
        case rel => exact ⟨k + 1, by omega, by go_num, ⟨E, rfl, HFE2.out⟩, HI3.out⟩
        case measure => simp [intOf]; omega
      · have hkb : (gk == kind) = false := by rw [beq_eq_false_iff_ne]; exact hkk
        have HE : Hid (s0 = F (k + 1)) := by unfold Hid; rw [HFN.out hkk]; exact hs.out
        have HI := hid hI.out
        clear hI hs HFN HFE hkk HGB HGC
        go_wp2_with fail
        go_roundw
        case rel => exact ⟨k + 1, by omega, by go_num, ⟨s0, rfl, HE.out⟩, HI.out⟩
        case measure => simp [intOf]; omega
    · obtain rfl : k = n := by omega
      have hlt2 : ¬ (k : Int) < (k : Int) := by omega
      have HE := hid hI.out
      clear hI
      go_wp2_with fail
      go_ret
      exact ⟨by rw [← hs.out]; rfl, HE.out⟩

end Go.Proofs.YtaapbopcfpihbabGreatDoor
