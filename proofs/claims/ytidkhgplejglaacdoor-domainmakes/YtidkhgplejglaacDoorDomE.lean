/- Package domain: spread, the transform by halves. -/
import Derived.Test.YtidkhgplejglaacDoorDomC
import Derived.BigRegion
import Derived.Test.YtidkhgplejglaacDoorHeldS
import Derived.Deep.RegionWith
import Derived.StillTailTactics
namespace Go.Proofs.YtidkhgplejglaacDoor
open Go.RowKit

/-- of the blocks that were there, two alone have turned -/
structure Pair (g h : Nat) (w w' : World) : Prop where
  os : w'.os = w.os
  tape : w'.tape = w.tape
  output : w'.output = w.output
  size : w.heap.size ≤ w'.heap.size
  block : ∀ k, k < w.heap.size → k ≠ g → k ≠ h → w'.heap[k]? = w.heap[k]?
theorem Pair.refl (g h : Nat) (w : World) : Pair g h w w := ⟨rfl, rfl, rfl, Nat.le_refl _, fun _ _ _ _ => rfl⟩
theorem Pair.trans {g h : Nat} {a b c : World} (x : Pair g h a b) (y : Pair g h b c) : Pair g h a c :=
  ⟨y.os.trans x.os, y.tape.trans x.tape, y.output.trans x.output, Nat.le_trans x.size y.size, fun i h0 h1 h2 => (y.block i (Nat.lt_of_lt_of_le h0 x.size) h1 h2).trans (x.block i h0 h1 h2)⟩
theorem Pair.symm {g h : Nat} {a b : World} (x : Pair g h a b) : Pair h g a b := ⟨x.os, x.tape, x.output, x.size, fun i h0 h1 h2 => x.block i h0 h2 h1⟩
theorem Pair.drewN {g h : Nat} {a w : World} (x : Pair g h a w) (n : Nat) : Pair g h a (w.drewN n) := x.trans ⟨rfl, rfl, rfl, Nat.le_refl _, fun _ _ _ _ => rfl⟩
theorem Pair.drew {g h : Nat} {a w : World} (x : Pair g h a w) : Pair g h a w.drew := x.trans ⟨rfl, rfl, rfl, Nat.le_refl _, fun _ _ _ _ => rfl⟩
theorem Pair.drew2 {g h : Nat} {a w : World} (x : Pair g h a.drew w) : Pair g h a w := ⟨x.os, x.tape, x.output, x.size, x.block⟩
theorem Pair.setCell {g h : Nat} {a w : World} (x : Pair g h a w) {p : Addr} (hp : p.block = g ∨ p.block = h) (u : Value) : Pair g h a (w.setCell p u) :=
  x.trans ⟨rfl, rfl, rfl, by simp [World.setCell], fun k _ h1 h2 => Below.heap_setCell _ _ _ _ (by rcases hp with e | e <;> omega)⟩
theorem Pair.cell {g h : Nat} {w w' : World} (x : Pair g h w w') {p : Addr} (h0 : p.block < w.heap.size) (h1 : p.block ≠ g) (h2 : p.block ≠ h) : w'.cell? p = w.cell? p := World.cell?_of_block (w := w) (x.block p.block h0 h1 h2)
theorem Pair.alloc {g h : Nat} {a w : World} (x : Pair g h a w) (o : Obj) : Pair g h a (w.alloc o) :=
  x.trans ⟨rfl, rfl, rfl, by simp, fun k h0 _ _ => Go.Deep.blk_alloc_lt _ _ _ h0⟩
theorem Pair.below {g h n0 : Nat} {w w' : World} (x : Pair g h w w') (h0 : n0 ≤ w.heap.size) (hg : n0 ≤ g) (hh : n0 ≤ h) : Below n0 w w' :=
  ⟨x.os, x.tape, x.output, x.size, fun k hk => x.block k (by omega) (by omega) (by omega)⟩

/-- what spread does to lists of this length -/
def SpreadAt (p b n : Nat) : Prop :=
  ∀ (a1 a2 r : Int) (g h o q N1 N2 c1 c2 : Nat) (F G : Nat → Value) (f : Nat → Int) (w : World), w.cell? ⟨b, 0, none⟩ = some (.int .i64 p) → b ≠ g → b ≠ h → g ≠ h →
    w.rowIs g 3 N1 F → w.rowIs h 3 N2 G → o + n ≤ N1 → q + n ≤ N2 → n ≤ c1 → n ≤ c2 → 0 ≤ r → r < p → Dom.Ord p r n →
    (∀ j, j < n → F (o + j) = .int .i64 (f j)) → (∀ j, j < n → -9223372036854775808 ≤ f j ∧ f j ≤ 9223372036854775807) →
    Calls Tryd.prog 32 #[.agg #[.pointer (some ⟨b, 0, none⟩), .int .i64 a1, .int .i64 a2], .slice (some ⟨g, o, none⟩) n c1, .slice (some ⟨h, q, none⟩) n c2, .int .i64 r] w fun e w' =>
      e = .returned (.tuple #[]) ∧ Pair g h w w' ∧ ∃ F' G', w'.rowIs g 3 N1 F' ∧ w'.rowIs h 3 N2 G' ∧
        (∀ j, j < n → F' (o + j) = .int .i64 (Dom.ft p f r n j)) ∧ (∀ j, j < o ∨ o + n ≤ j → F' j = F j) ∧ (∀ j, j < q ∨ q + n ≤ j → G' j = G j)

theorem spread_one (p b : Nat) : SpreadAt p b 1 := by
  intro a1 a2 r g h o q N1 N2 c1 c2 F G f w hp hbg hbh hgh hF hG ho hq hc1 hc2 hr0 hr1 hord hf hfit
  have HF := hid hF
  have HG := hid hG
  have HV := hid hf
  clear hF hG hf hfit hord
  go_enter Tryd.func32, Tryd.ntmps32
  go_wp2_with fail
  refine bodyPost_ret (results_none rfl _ _ _) rfl ?_
  exact ⟨rfl, (Pair.refl _ _ _).alloc _, F, G, HF.out.alloc _, HG.out.alloc _, fun j hj => by rw [HV.out j hj, Dom.ft_one], fun _ _ => rfl, fun _ _ => rfl⟩

theorem ft_fits {p : Nat} (h3 : 3 ≤ p) (hm : p ≤ 2147483647) {f : Nat → Int} {r : Int} {n : Nat} (h : ∀ j, j < n → -9223372036854775808 ≤ f j ∧ f j ≤ 9223372036854775807) :
    ∀ j, j < n → -9223372036854775808 ≤ Dom.ft p f r n j ∧ Dom.ft p f r n j ≤ 9223372036854775807 := fun j hj => by
  by_cases e : n = 1
  · subst e; rw [Dom.ft_one]; exact h j hj
  · have := Dom.ft_bounds (p := p) (by omega) f r e j
    omega

/-- two places turned -/
def up2 (F : Nat → Value) (i : Nat) (x : Value) (j : Nat) (y : Value) : Nat → Value := fun t => if t = j then y else if t = i then x else F t
theorem rowIs_two {w : World} {g N : Nat} {t : TypeId} {F : Nat → Value} (h : w.rowIs g t N F) (i j : Nat) (x y : Value) : ((w.setCell ⟨g, i, none⟩ x).setCell ⟨g, j, none⟩ y).rowIs g t N (up2 F i x j y) :=
  ((h.set i x).set j y).congr (fun _ _ => rfl)

set_option maxRecDepth 1000000 in
set_option maxHeartbeats 4000000 in
theorem spread_step (p b m : Nat) (hpr : Num.Prime p) (h3 : 3 ≤ p) (hm : p ≤ 2147483647) (h0 : 0 < m) (hmm : m ≤ 65536) (ih : SpreadAt p b m) : SpreadAt p b (2 * m) := by
  intro a1 a2 r g h o q N1 N2 c1 c2 F G f w hp hbg hbh hgh hF hG ho hq hc1 hc2 hr0 hr1 hord hf hfit
  have hgl := hF.lt
  have hhl := hG.lt
  have hbl : b < w.heap.size := by
    rcases Nat.lt_or_ge b w.heap.size with g | g
    · exact g
    · simp [World.cell?, Array.getElem?_eq_none g] at hp
  have HF := hid hF
  have HG := hid hG
  have HV := hid hf
  have HFT := hid hfit
  have HO := hid hord
  have HI := hid ih
  have e1 : ((2 * m : Nat) : Int) / 2 = (m : Int) := by omega
  have e2 : ((m : Int) == 0) = false := by rw [beq_eq_false_iff_ne]; omega
  have e3 : 2 * m - m = m := by omega
  have sl1 : m ≤ c1 := by omega
  have sl2 : (m : Int) ≤ 2 * (m : Int) := by omega
  have sl3 : ¬ c1 = m := by omega
  have hmx : Tryd.prog.follows .mixedOrders = true := by kernel_rfl
  clear hF hG hf hfit hord ih
  go_enter Tryd.func32, Tryd.ntmps32
  go_wp2_with fail
  go_quiet (fail)
  go_wp2_with fail
  have HF0 : Hid (((w.alloc (.cells #[.pointer (some ⟨b, 0, none⟩), .int .i64 a1, .int .i64 a2] 55)).drewN nq).rowIs g 3 N1 F) := HF.out.alloc _
  have HG0 : Hid (((w.alloc (.cells #[.pointer (some ⟨b, 0, none⟩), .int .i64 a1, .int .i64 a2] 55)).drewN nq).rowIs h 3 N2 G) := HG.out.alloc _
  have HP0 : Hid (Pair g h w ((w.alloc (.cells #[.pointer (some ⟨b, 0, none⟩), .int .i64 a1, .int .i64 a2] 55)).drewN nq)) := ((Pair.refl _ _ _).alloc _).drewN _
  have HC0 : Hid (((w.alloc (.cells #[.pointer (some ⟨b, 0, none⟩), .int .i64 a1, .int .i64 a2] 55)).drewN nq).cell? ⟨w.heap.size, 0, none⟩ = some (.pointer (some ⟨b, 0, none⟩))) := by
    show (w.alloc (.cells #[.pointer (some ⟨b, 0, none⟩), .int .i64 a1, .int .i64 a2] 55)).cell? ⟨w.heap.size, 0, none⟩ = _
    simp
  have HC1 : Hid (((w.alloc (.cells #[.pointer (some ⟨b, 0, none⟩), .int .i64 a1, .int .i64 a2] 55)).drewN nq).cell? ⟨w.heap.size, 1, none⟩ = some (.int .i64 a1)) := by
    show (w.alloc (.cells #[.pointer (some ⟨b, 0, none⟩), .int .i64 a1, .int .i64 a2] 55)).cell? ⟨w.heap.size, 1, none⟩ = _
    simp
  have HC2 : Hid (((w.alloc (.cells #[.pointer (some ⟨b, 0, none⟩), .int .i64 a1, .int .i64 a2] 55)).drewN nq).cell? ⟨w.heap.size, 2, none⟩ = some (.int .i64 a2)) := by
    show (w.alloc (.cells #[.pointer (some ⟨b, 0, none⟩), .int .i64 a1, .int .i64 a2] 55)).cell? ⟨w.heap.size, 2, none⟩ = _
    simp
  have hs0 : w.heap.size < ((w.alloc (.cells #[.pointer (some ⟨b, 0, none⟩), .int .i64 a1, .int .i64 a2] 55)).drewN nq).heap.size := by
    show _ < (w.alloc (.cells #[.pointer (some ⟨b, 0, none⟩), .int .i64 a1, .int .i64 a2] 55)).heap.size
    simp
  generalize (w.alloc (.cells #[.pointer (some ⟨b, 0, none⟩), .int .i64 a1, .int .i64 a2] 55)).drewN nq = W0 at *
  go_loopw [28] (fun iv wr => ∃ (k : Nat) (G' : Nat → Value), k ≤ m ∧ iv = .int .i64 k ∧ Hid (wr.rowIs g 3 N1 F) ∧ Hid (wr.rowIs h 3 N2 G') ∧ Hid (∀ j, j < k → G' (q + j) = .int .i64 (f (2 * j))) ∧ Hid (∀ j, j < k → G' (q + m + j) = .int .i64 (f (2 * j + 1)))
      ∧ Hid (∀ j, j < q ∨ q + 2 * m ≤ j → G' j = G j) ∧ Hid (Pair g h W0 wr))
    (fun iv _ => m - (intOf iv).toNat)
  case atStart => exact ⟨0, G, Nat.zero_le _, rfl, HF0, HG0, fun j hj => by omega, fun j hj => by omega, fun _ _ => rfl, Pair.refl _ _ _⟩
  case round =>
    obtain ⟨k, G', hk, rfl, hF1, hG1, hev, hod, hout, hpair⟩ := hrel
    by_cases hlt : k < m
    · have hlt2 : (k : Int) < (m : Int) := by omega
      have i1 : (2 * (k : Int)).toNat = 2 * k := by omega
      have i2 : (2 * (k : Int) + 1).toNat = 2 * k + 1 := by omega
      have b1 : 2 * (k : Int) < ((2 * m : Nat) : Int) := by omega
      have b2 : 2 * (k : Int) + 1 < ((2 * m : Nat) : Int) := by omega
      have r1 := hF1.out.cell (i := o + 2 * k) (by omega)
      rw [HV.out (2 * k) (by omega)] at r1
      have r2 := hF1.out.cell (i := o + (2 * k + 1)) (by omega)
      rw [HV.out (2 * k + 1) (by omega)] at r2
      have s1 := hG1.out.cell (i := q + k) (by omega)
      have s2 := hG1.out.cell (i := q + m + k) (by omega)
      have t1 := hG1.out.frozen (q + k)
      have t2 := hG1.out.frozen (q + m + k)
      have hne : ¬ q + m + k = q + k := by omega
      have HN := hid (rowIs_two hG1.out (q + k) (q + m + k) (.int .i64 (f (2 * k))) (.int .i64 (f (2 * k + 1))))
      have HEV : Hid (∀ j, j < k + 1 → up2 G' (q + k) (.int .i64 (f (2 * k))) (q + m + k) (.int .i64 (f (2 * k + 1))) (q + j) = .int .i64 (f (2 * j))) := fun j hj => by
        unfold up2
        rw [if_neg (by omega)]
        by_cases e : j = k
        · rw [if_pos (by omega), e]
        · rw [if_neg (by omega)]; exact hev.out j (by omega)
      have HOD : Hid (∀ j, j < k + 1 → up2 G' (q + k) (.int .i64 (f (2 * k))) (q + m + k) (.int .i64 (f (2 * k + 1))) (q + m + j) = .int .i64 (f (2 * j + 1))) := fun j hj => by
        unfold up2
        by_cases e : j = k
        · rw [if_pos (by omega), e]
        · rw [if_neg (by omega), if_neg (by omega)]; exact hod.out j (by omega)
      have HOU : Hid (∀ j, j < q ∨ q + 2 * m ≤ j → up2 G' (q + k) (.int .i64 (f (2 * k))) (q + m + k) (.int .i64 (f (2 * k + 1))) j = G j) := fun j hj => by
        unfold up2
        rw [if_neg (by omega), if_neg (by omega)]; exact hout.out j hj
      have HPA : Hid (Pair g h W0 ((wr.setCell ⟨h, q + k, none⟩ (.int .i64 (f (2 * k)))).setCell ⟨h, q + m + k, none⟩ (.int .i64 (f (2 * k + 1))))) := (hpair.out.setCell (.inr rfl) _).setCell (.inr rfl) _
      have HFN : Hid (((wr.setCell ⟨h, q + k, none⟩ (.int .i64 (f (2 * k)))).setCell ⟨h, q + m + k, none⟩ (.int .i64 (f (2 * k + 1)))).rowIs g 3 N1 F) := (hF1.out.setOther (a := ⟨h, q + k, none⟩) hgh _).setOther (a := ⟨h, q + m + k, none⟩) hgh _
      generalize f (2 * k) = x at *
      generalize f (2 * k + 1) = y at *
      generalize G' (q + k) = u at *
      generalize G' (q + m + k) = v at *
      clear hF1 hG1 hpair hev hod hout
      go_wp2_with fail
      go_region
      all_goals
        go_wp2_with fail
        go_roundw
        case rel => exact ⟨k + 1, _, by omega, by go_num, HFN.out.drew, HN.out.drew, HEV, HOD, HOU, HPA.out.drew⟩
        case measure => simp [intOf]; omega
    · have hlt2 : ¬ (k : Int) < (m : Int) := by omega
      have hp0 := (HP0.out.cell (p := ⟨b, 0, none⟩) hbl hbg hbh).trans hp
      have hpc := (hpair.out.cell (p := ⟨b, 0, none⟩) (Nat.lt_trans hbl hs0) hbg hbh).trans hp0
      have n1 : w.heap.size ≠ g := by omega
      have n2 : w.heap.size ≠ h := by omega
      have cc0 := (hpair.out.cell (p := ⟨w.heap.size, 0, none⟩) hs0 n1 n2).trans HC0.out
      have cc1 := (hpair.out.cell (p := ⟨w.heap.size, 1, none⟩) hs0 n1 n2).trans HC1.out
      have cc2 := (hpair.out.cell (p := ⟨w.heap.size, 2, none⟩) hs0 n1 n2).trans HC2.out
      have hsq := emod_bounds (r * r) p h3
      have HORD := hid HO.out.sqm
      have HM := hid (mul_any p b r r wr h3 hm hpc (by omega) (by omega) (by omega) (by omega))
      have HS1 : Hid (∀ w1 : World, w1.cell? ⟨b, 0, none⟩ = some (.int .i64 p) → w1.rowIs h 3 N2 G' → w1.rowIs g 3 N1 F →
          Calls Tryd.prog 32 #[.agg #[.pointer (some ⟨b, 0, none⟩), .int .i64 a1, .int .i64 a2], .slice (some ⟨h, q, none⟩) m c2, .slice (some ⟨g, o, none⟩) m c1, .int .i64 (r * r % (p : Int))] w1 fun e w' =>
            e = .returned (.tuple #[]) ∧ Pair h g w1 w' ∧ ∃ G1 F1, w'.rowIs h 3 N2 G1 ∧ w'.rowIs g 3 N1 F1 ∧
              (∀ j, j < m → G1 (q + j) = .int .i64 (Dom.ft p (Dom.ev f) (r * r % (p : Int)) m j)) ∧ (∀ j, j < q ∨ q + m ≤ j → G1 j = G' j) ∧ (∀ j, j < o ∨ o + m ≤ j → F1 j = F j)) :=
        fun w1 z1 z2 z3 => HI.out a1 a2 (r * r % (p : Int)) h g q o N2 N1 c2 c1 G' F (Dom.ev f) w1 z1 hbh hbg hgh.symm z2 z3 (by omega) (by omega) (by omega) (by omega) hsq.1 hsq.2 HORD.out
          (fun j hj => hev.out j (by omega)) (fun j hj => HFT.out (2 * j) (by omega))
      have HFX : Hid (∀ j, j < m → -9223372036854775808 ≤ Dom.ft p (Dom.ev f) (r * r % (p : Int)) m j ∧ Dom.ft p (Dom.ev f) (r * r % (p : Int)) m j ≤ 9223372036854775807) := ft_fits h3 hm (fun j hj => HFT.out (2 * j) (by omega))
      have HFY : Hid (∀ j, j < m → -9223372036854775808 ≤ Dom.ft p (Dom.od f) (r * r % (p : Int)) m j ∧ Dom.ft p (Dom.od f) (r * r % (p : Int)) m j ≤ 9223372036854775807) := ft_fits h3 hm (fun j hj => HFT.out (2 * j + 1) (by omega))
      have HLOW : Hid (∀ j, j < m → (Dom.ft p (Dom.ev f) (r * r % (p : Int)) m j + (r ^ j % (p : Int)) * Dom.ft p (Dom.od f) (r * r % (p : Int)) m j % (p : Int)) % (p : Int) = Dom.ft p f r (2 * m) j) := fun j hj => Dom.ft_low (by omega) f r hj
      have HHIGH : Hid (∀ j, j < m → (Dom.ft p (Dom.ev f) (r * r % (p : Int)) m j - (r ^ j % (p : Int)) * Dom.ft p (Dom.od f) (r * r % (p : Int)) m j % (p : Int)) % (p : Int) = Dom.ft p f r (2 * m) (m + j)) := fun j hj => Dom.ft_high hpr f HO.out hj
      have HS2 : Hid (∀ (G1 F1 : Nat → Value) (w1 : World), w1.cell? ⟨b, 0, none⟩ = some (.int .i64 p) → w1.rowIs h 3 N2 G1 → w1.rowIs g 3 N1 F1 → (∀ j, j < m → G1 (q + m + j) = .int .i64 (Dom.od f j)) →
          Calls Tryd.prog 32 #[.agg #[.pointer (some ⟨b, 0, none⟩), .int .i64 a1, .int .i64 a2], .slice (some ⟨h, q + m, none⟩) m (c2 - m), .slice (some ⟨g, o + m, none⟩) m (c1 - m), .int .i64 (r * r % (p : Int))] w1 fun e w' =>
            e = .returned (.tuple #[]) ∧ Pair h g w1 w' ∧ ∃ F' G', w'.rowIs h 3 N2 F' ∧ w'.rowIs g 3 N1 G' ∧
              (∀ j, j < m → F' (q + m + j) = .int .i64 (Dom.ft p (Dom.od f) (r * r % (p : Int)) m j)) ∧ (∀ j, j < q + m ∨ q + m + m ≤ j → F' j = G1 j) ∧ (∀ j, j < o + m ∨ o + m + m ≤ j → G' j = F1 j)) :=
        fun G1 F1 w1 z1 z2 z3 z4 => HI.out a1 a2 (r * r % (p : Int)) h g (q + m) (o + m) N2 N1 (c2 - m) (c1 - m) G1 F1 (Dom.od f) w1 z1 hbh hbg hgh.symm z2 z3 (by omega) (by omega) (by omega) (by omega) hsq.1 hsq.2 HORD.out z4 (fun j hj => HFT.out (2 * j + 1) (by omega))
      have HODD : Hid (∀ j, j < m → G' (q + m + j) = .int .i64 (Dom.od f j)) := fun j hj => hod.out j (by omega)
      have HOUT := hout
      have HPR := hpair
      have HG1 := hG1
      have HF1 := hF1
      clear hF1 hG1 hev hod hout hpair HI HF HG
      generalize r * r % (p : Int) = sq at *
      go_wp2_with fail
      refine HM.out.mono ?_
      rintro e w1 ⟨rfl, rfl⟩
      have hs1 := HPR.out.size
      go_wp2_with fail
      go_still_tail 6, hmx
      go_wp2_with fail
      refine (HS1.out _ ?_ ?_ ?_).mono ?_
      · exact hpc
      · exact HG1.out
      · exact HF1.out
      rintro e w2 ⟨rfl, hpa, G1, F1, hg1, hf1, hv1, ho1, ho2⟩
      have HPA1 := hid hpa
      have HG2 := hid hg1
      have HF2 := hid hf1
      have HV1 := hid hv1
      have HO1 := hid ho1
      have HO2 := hid ho2
      have hpc2 := (hpa.cell (p := ⟨b, 0, none⟩) (by show b < w1.heap.size; omega) hbh hbg).trans hpc
      have cd0 := (hpa.cell (p := ⟨w.heap.size, 0, none⟩) (by show w.heap.size < w1.heap.size; omega) n2 n1).trans cc0
      have cd1 := (hpa.cell (p := ⟨w.heap.size, 1, none⟩) (by show w.heap.size < w1.heap.size; omega) n2 n1).trans cc1
      have cd2 := (hpa.cell (p := ⟨w.heap.size, 2, none⟩) (by show w.heap.size < w1.heap.size; omega) n2 n1).trans cc2
      have HOD1 : Hid (∀ j, j < m → G1 (q + m + j) = .int .i64 (Dom.od f j)) := fun j hj => (ho1 (q + m + j) (by omega)).trans (HODD.out j hj)
      have hs2 : w1.heap.size ≤ w2.heap.size := hpa.size
      clear hpa hg1 hf1 hv1 ho1 ho2
      go_wp2_with fail
      go_still_tail 6, hmx
      go_wp2_with fail
      refine (HS2.out G1 F1 _ ?_ ?_ ?_ HOD1.out).mono ?_
      · exact hpc2
      · exact HG2.out
      · exact HF2.out
      rintro e w3 ⟨rfl, hpa, G2, F2, hg1, hf1, hv1, ho1, ho2⟩
      have hs3 : w2.heap.size ≤ w3.heap.size := hpa.size
      have hpc3 := (hpa.cell (p := ⟨b, 0, none⟩) (by show b < w2.heap.size; omega) hbh hbg).trans hpc2
      have ce0 := (hpa.cell (p := ⟨w.heap.size, 0, none⟩) (by show w.heap.size < w2.heap.size; omega) n2 n1).trans cd0
      have HPA2 : Hid (Pair g h w w3) := (HP0.out.trans HPR.out).trans ((HPA1.out.symm.drew2).trans hpa.symm.drew2)
      have HG3 := hid hg1
      have HF3 := hid hf1
      have HX : Hid (∀ j, j < m → G2 (q + j) = .int .i64 (Dom.ft p (Dom.ev f) sq m j)) := fun j hj => (ho1 (q + j) (by omega)).trans (HV1.out j hj)
      have HY : Hid (∀ j, j < m → G2 (q + m + j) = .int .i64 (Dom.ft p (Dom.od f) sq m j)) := hv1
      have HZ : Hid (∀ j, j < q ∨ q + 2 * m ≤ j → G2 j = G j) := fun j hj => (ho1 j (by omega)).trans ((HO1.out j (by omega)).trans (HOUT.out j hj))
      have HW : Hid (∀ j, j < o ∨ o + 2 * m ≤ j → F2 j = F j) := fun j hj => (ho2 j (by omega)).trans (HO2.out j (by omega))
      clear hpa hg1 hf1 hv1 ho1 ho2 cc0 cc1 cc2 cd0 cd1 cd2 hpc hpc2 HS1 HS2 HM HODD HOD1 HV1 HO1 HO2 HPA1 HG2 HF2 HG1 HF1 HPR HOUT HP0 HC0 HC1 HC2 HF0 HG0
      have x0 : (1 : Int) = r ^ 0 % (p : Int) := by rw [Int.pow_zero]; exact (Int.emod_eq_of_lt (by omega) (by omega)).symm
      go_wp2_with fail
      go_loopw [13, 69] (fun xv iv wr => ∃ (k : Nat) (F' : Nat → Value), k ≤ m ∧ iv = .int .i64 k ∧ xv = .int .i64 (r ^ k % (p : Int)) ∧ Hid (wr.rowIs g 3 N1 F') ∧ Hid (wr.rowIs h 3 N2 G2)
          ∧ Hid (∀ j, j < k → F' (o + j) = .int .i64 (Dom.ft p f r (2 * m) j)) ∧ Hid (∀ j, j < k → F' (o + (m + j)) = .int .i64 (Dom.ft p f r (2 * m) (m + j)))
          ∧ Hid (∀ j, j < o ∨ o + 2 * m ≤ j → F' j = F j) ∧ Hid (Pair g h w3 wr))
        (fun _ iv _ => m - (intOf iv).toNat)
      case atStart => exact ⟨0, F2, Nat.zero_le _, rfl, by rw [← x0], HF3, HG3, fun j hj => by omega, fun j hj => by omega, HW.out, Pair.refl _ _ _⟩
      case round =>
        obtain ⟨k, F', hk, rfl, rfl, hF1, hG1, hlo, hhi, hout, hpair⟩ := hrel
        have hpw := (hpair.out.cell (p := ⟨b, 0, none⟩) (by show b < w3.heap.size; omega) hbg hbh).trans hpc3
        have cw0 := (hpair.out.cell (p := ⟨w.heap.size, 0, none⟩) (by show w.heap.size < w3.heap.size; omega) n1 n2).trans ce0
        by_cases hlt : k < m
        · have hlt2 : (k : Int) < (m : Int) := by omega
          have hlt4 : (m : Int) + (k : Int) < 2 * (m : Int) := by omega
          have i3 : ((m : Int) + (k : Int)).toNat = m + k := by omega
          have i4 : IntKind.i64.wrap ((m : Int) + (k : Int)) = (m : Int) + (k : Int) := by rw [IntKind.wrap_i64]; omega
          have i5 : ¬ 2 * (m : Int) ≤ (k : Int) := by omega
          have i6 : ¬ (m : Int) + (k : Int) < 0 := by omega
          have y1 := hG1.out.cell (i := q + k) (by omega)
          rw [HX.out k hlt] at y1
          have y2 := hG1.out.cell (i := q + m + k) (by omega)
          rw [HY.out k hlt] at y2
          have s1 := hF1.out.cell (i := o + k) (by omega)
          have s2 := hF1.out.cell (i := o + (m + k)) (by omega)
          have t1 := hF1.out.frozen (o + k)
          have t2 := hF1.out.frozen (o + (m + k))
          have hne : ¬ o + (m + k) = o + k := by omega
          obtain ⟨xb1, xb2⟩ := emod_bounds (r ^ k) p h3
          have HEX := HFX.out k hlt
          have HOX := HFY.out k hlt
          have HL := hid (HLOW.out k hlt)
          have HH := hid (HHIGH.out k hlt)
          have HXS : Hid (∀ w1 : World, w1.cell? ⟨b, 0, none⟩ = some (.int .i64 p) → Calls Tryd.prog 27 #[.pointer (some ⟨b, 0, none⟩), .int .i64 (r ^ k % (p : Int)), .int .i64 r] w1 fun e w' => e = .returned (.int .i64 (r ^ (k + 1) % (p : Int))) ∧ w' = w1) :=
            fun w1 hc => by
              have := mul_any p b (r ^ k % (p : Int)) r w1 h3 hm hc (by omega) (by omega) (by omega) (by omega)
              rwa [show r ^ k % (p : Int) * r % (p : Int) = r ^ (k + 1) % (p : Int) from by rw [Int.pow_succ, Int.mul_emod, Int.emod_emod_of_dvd _ (Int.dvd_refl _), ← Int.mul_emod]] at this
          obtain ⟨xn, hxn⟩ : ∃ xn, xn = r ^ (k + 1) % (p : Int) := ⟨_, rfl⟩
          have HXN := hid hxn
          rw [← hxn] at HXS
          clear hxn
          generalize r ^ k % (p : Int) = xk at *
          generalize Dom.ft p (Dom.ev f) sq m k = ex at *
          generalize Dom.ft p (Dom.od f) sq m k = ox at *
          have HM2 : Hid (∀ w1 : World, w1.cell? ⟨b, 0, none⟩ = some (.int .i64 p) → Calls Tryd.prog 27 #[.pointer (some ⟨b, 0, none⟩), .int .i64 xk, .int .i64 ox] w1 fun e w' => e = .returned (.int .i64 (xk * ox % (p : Int))) ∧ w' = w1) :=
            fun w1 hc => mul_any p b xk ox w1 h3 hm hc (by omega) (by omega) HOX.1 HOX.2
          obtain ⟨rb1, rb2⟩ := emod_bounds (xk * ox) p h3
          generalize xk * ox % (p : Int) = rest at *
          have HAD : Hid (∀ w1 : World, w1.cell? ⟨b, 0, none⟩ = some (.int .i64 p) → Calls Tryd.prog 48 #[.pointer (some ⟨b, 0, none⟩), .int .i64 ex, .int .i64 rest] w1 fun e w' => e = .returned (.int .i64 ((ex + rest) % (p : Int))) ∧ w' = w1) :=
            fun w1 hc => add_any p b ex rest w1 h3 hm hc HEX.1 HEX.2 (by omega) (by omega)
          have HSU : Hid (∀ w1 : World, w1.cell? ⟨b, 0, none⟩ = some (.int .i64 p) → Calls Tryd.prog 49 #[.pointer (some ⟨b, 0, none⟩), .int .i64 ex, .int .i64 rest] w1 fun e w' => e = .returned (.int .i64 ((ex - rest) % (p : Int))) ∧ w' = w1) :=
            fun w1 hc => sub_any p b ex rest w1 h3 hm hc HEX.1 HEX.2 (by omega) (by omega)
          rw [HL.out] at HAD
          rw [HH.out] at HSU
          go_wp2_with fail
          go_quiet (first
            | (go_at_call 27; exact Calls.quiet_of_same (HM2.out _ hpw)))
          have q1 : (wr.drewN nq).drew.cell? ⟨w.heap.size, 0, none⟩ = some (.pointer (some ⟨b, 0, none⟩)) := cw0
          have q2 : (wr.drewN nq).drew.cell? ⟨h, q + k, none⟩ = some (.int .i64 ex) := y1
          have hpq : (wr.drewN nq).drew.cell? ⟨b, 0, none⟩ = some (.int .i64 p) := hpw
          have v1 : (wr.drewN nq).cell? ⟨g, o + k, none⟩ = some (F' (o + k)) := s1
          have v2 : (wr.drewN nq).cell? ⟨g, o + (m + k), none⟩ = some (F' (o + (m + k))) := s2
          have v3 : (wr.drewN nq).frozen? ⟨g, o + k, none⟩ = false := t1
          have v4 : (wr.drewN nq).frozen? ⟨g, o + (m + k), none⟩ = false := t2
          have HFQ : Hid ((wr.drewN nq).drew.rowIs g 3 N1 F') := hF1
          have HGQ : Hid ((wr.drewN nq).drew.rowIs h 3 N2 G2) := hG1
          have HPQ : Hid (Pair g h w3 (wr.drewN nq).drew) := (hpair.out.drewN nq).drew
          have HLO := hlo
          have HHI := hhi
          have HOU := hout
          generalize F' (o + k) = u1 at v1
          generalize F' (o + (m + k)) = u2 at v2
          clear s1 s2 t1 t2 y1 y2 cw0 hpw hF1 hG1 hpair hlo hhi hout HM2 HL HH
          generalize wr.drewN nq = wq at *
          have hC0 : wq.drew.cell? ⟨w.heap.size, 0, none⟩ = some (.pointer (some ⟨b, 0, none⟩)) ∧ wq.drew.cell? ⟨h, q + k, none⟩ = some (.int .i64 ex) := ⟨q1, q2⟩
          go_wp2_with fail
          refine wp_region_S (C := fun W => W.cell? ⟨w.heap.size, 0, none⟩ = some (.pointer (some ⟨b, 0, none⟩)) ∧ W.cell? ⟨h, q + k, none⟩ = some (.int .i64 ex)) (st := [23, 25]) hmx ?_
          show wpAnyS _ _ _ _ _ _ 26 (Array.replicate 26 false) _ _
          refine wpAnyS_pure (i := 0) (v := .slice (some ⟨g, o, none⟩) (2 * m) c1) rfl (by kernel_rfl) (by kernel_rfl) (by kernel_rfl) (by kernel_rfl) (fun _ _ _ h => h) (Or.inl ⟨by rfl, fun W _ => ?_⟩) (fun _ => hC0) ?_
          · go_simp
          refine wpAnyS_pure (i := 1) (v := .int .i64 k) rfl (by kernel_rfl) (by kernel_rfl) (by kernel_rfl) (by kernel_rfl) (fun _ _ _ h => h) (Or.inl ⟨by rfl, fun W _ => ?_⟩) (fun _ => hC0) ?_
          · go_simp
          refine wpAnyS_pure (i := 2) (v := .slice (some ⟨g, o, none⟩) (2 * m) c1) rfl (by kernel_rfl) (by kernel_rfl) (by kernel_rfl) (by kernel_rfl) (fun _ _ _ h => h) (Or.inl ⟨by rfl, fun W _ => ?_⟩) (fun _ => hC0) ?_
          · go_simp
          refine wpAnyS_pure (i := 3) (v := .int .i64 m) rfl (by kernel_rfl) (by kernel_rfl) (by kernel_rfl) (by kernel_rfl) (fun _ _ _ h => h) (Or.inl ⟨by rfl, fun W _ => ?_⟩) (fun _ => hC0) ?_
          · go_simp
          refine wpAnyS_pure (i := 4) (v := .int .i64 k) rfl (by kernel_rfl) (by kernel_rfl) (by kernel_rfl) (by kernel_rfl) (fun _ _ _ h => h) (Or.inl ⟨by rfl, fun W _ => ?_⟩) (fun _ => hC0) ?_
          · go_simp
          refine wpAnyS_pure (i := 5) (v := .int .i64 ((m : Int) + (k : Int))) rfl (by kernel_rfl) (by kernel_rfl) (by kernel_rfl) (by kernel_rfl) (fun _ _ _ h => h) (Or.inl ⟨by rfl, fun W _ => ?_⟩) (fun _ => hC0) ?_
          · go_simp
          refine wpAnyS_pure (i := 6) (v := .pointer (some ⟨w.heap.size, 0, none⟩)) rfl (by kernel_rfl) (by kernel_rfl) (by kernel_rfl) (by kernel_rfl) (fun _ _ _ h => h) (Or.inl ⟨by rfl, fun W _ => ?_⟩) (fun _ => hC0) ?_
          · go_simp
          refine wpAnyS_take (i := 7) (v := .pointer (some ⟨b, 0, none⟩)) rfl (by kernel_rfl) (by kernel_rfl) (by kernel_rfl) (by kernel_rfl) (by kernel_rfl) (by kernel_rfl) (fun _ _ _ h => h) (Or.inl ⟨by rfl, fun W hC => ?_⟩) hC0 ?_
          · obtain ⟨g1, g2⟩ := hC
            go_simp
          refine wpAnyS_pure (i := 8) (v := .slice (some ⟨h, q, none⟩) m c2) rfl (by kernel_rfl) (by kernel_rfl) (by kernel_rfl) (by kernel_rfl) (fun _ _ _ h => h) (Or.inl ⟨by rfl, fun W _ => ?_⟩) (fun _ => hC0) ?_
          · go_simp
          refine wpAnyS_pure (i := 9) (v := .int .i64 k) rfl (by kernel_rfl) (by kernel_rfl) (by kernel_rfl) (by kernel_rfl) (fun _ _ _ h => h) (Or.inl ⟨by rfl, fun W _ => ?_⟩) (fun _ => hC0) ?_
          · go_simp
          refine wpAnyS_pure (i := 10) (v := .pointer (some ⟨h, q + k, none⟩)) rfl (by kernel_rfl) (by kernel_rfl) (by kernel_rfl) (by kernel_rfl) (fun _ _ _ h => h) (Or.inl ⟨by rfl, fun W _ => ?_⟩) (fun _ => hC0) ?_
          · go_simp
          refine wpAnyS_take (i := 11) (v := .int .i64 ex) rfl (by kernel_rfl) (by kernel_rfl) (by kernel_rfl) (by kernel_rfl) (by kernel_rfl) (by kernel_rfl) (fun _ _ _ h => h) (Or.inl ⟨by rfl, fun W hC => ?_⟩) hC0 ?_
          · obtain ⟨g1, g2⟩ := hC
            go_simp
          refine wpAnyS_pure (i := 12) (v := .int .i64 rest) rfl (by kernel_rfl) (by kernel_rfl) (by kernel_rfl) (by kernel_rfl) (fun _ _ _ h => h) (Or.inl ⟨by rfl, fun W _ => ?_⟩) (fun _ => hC0) ?_
          · go_simp
          refine wpAnyS_pure (i := 14) (v := .pointer (some ⟨w.heap.size, 0, none⟩)) rfl (by kernel_rfl) (by kernel_rfl) (by kernel_rfl) (by kernel_rfl) (fun _ _ _ h => h) (Or.inl ⟨by rfl, fun W _ => ?_⟩) (fun _ => hC0) ?_
          · go_simp
          refine wpAnyS_take (i := 15) (v := .pointer (some ⟨b, 0, none⟩)) rfl (by kernel_rfl) (by kernel_rfl) (by kernel_rfl) (by kernel_rfl) (by kernel_rfl) (by kernel_rfl) (fun _ _ _ h => h) (Or.inl ⟨by rfl, fun W hC => ?_⟩) hC0 ?_
          · obtain ⟨g1, g2⟩ := hC
            go_simp
          refine wpAnyS_pure (i := 16) (v := .slice (some ⟨h, q, none⟩) m c2) rfl (by kernel_rfl) (by kernel_rfl) (by kernel_rfl) (by kernel_rfl) (fun _ _ _ h => h) (Or.inl ⟨by rfl, fun W _ => ?_⟩) (fun _ => hC0) ?_
          · go_simp
          refine wpAnyS_pure (i := 17) (v := .int .i64 k) rfl (by kernel_rfl) (by kernel_rfl) (by kernel_rfl) (by kernel_rfl) (fun _ _ _ h => h) (Or.inl ⟨by rfl, fun W _ => ?_⟩) (fun _ => hC0) ?_
          · go_simp
          refine wpAnyS_pure (i := 18) (v := .pointer (some ⟨h, q + k, none⟩)) rfl (by kernel_rfl) (by kernel_rfl) (by kernel_rfl) (by kernel_rfl) (fun _ _ _ h => h) (Or.inl ⟨by rfl, fun W _ => ?_⟩) (fun _ => hC0) ?_
          · go_simp
          refine wpAnyS_take (i := 19) (v := .int .i64 ex) rfl (by kernel_rfl) (by kernel_rfl) (by kernel_rfl) (by kernel_rfl) (by kernel_rfl) (by kernel_rfl) (fun _ _ _ h => h) (Or.inl ⟨by rfl, fun W hC => ?_⟩) hC0 ?_
          · obtain ⟨g1, g2⟩ := hC
            go_simp
          refine wpAnyS_pure (i := 20) (v := .int .i64 rest) rfl (by kernel_rfl) (by kernel_rfl) (by kernel_rfl) (by kernel_rfl) (fun _ _ _ h => h) (Or.inl ⟨by rfl, fun W _ => ?_⟩) (fun _ => hC0) ?_
          · go_simp
          refine wpAnyS_one (i := 13) (by kernel_rfl) ?_
          refine wpOp_step rfl (fun K' hK' => ?_)
          rw [if_pos (by rfl)]
          go_simp
          refine (HAD.out wq.drew hpq).mono ?_
          rintro e w5 ⟨rfl, rfl⟩
          refine hK' _ _ ⟨fun _ => hC0, ?_⟩
          clear hK' K'
          refine wpAnyS_one (i := 21) (by kernel_rfl) ?_
          refine wpOp_step rfl (fun K' hK' => ?_)
          rw [if_pos (by rfl)]
          go_simp
          refine (HSU.out wq.drew hpq).mono ?_
          rintro e w5 ⟨rfl, rfl⟩
          refine hK' _ _ ⟨fun _ => hC0, ?_⟩
          clear hK' K'
          refine wpAnyS_pure (i := 22) (v := .pointer (some ⟨g, o + k, none⟩)) rfl (by kernel_rfl) (by kernel_rfl) (by kernel_rfl) (by kernel_rfl) (fun _ _ _ h => h) (Or.inl ⟨by rfl, fun W _ => ?_⟩) (fun _ => hC0) ?_
          · go_simp
          refine wpAnyS_one (i := 23) (by kernel_rfl) ?_
          refine wpOp_step rfl (fun K' hK' => ?_)
          rw [if_pos (by rfl)]
          go_simp
          refine hK' _ _ ⟨fun h => absurd (h 23 (by simp)) (by decide), ?_⟩
          clear hK' K'
          refine wpAnyS_pure (i := 24) (v := .pointer (some ⟨g, o + (m + k), none⟩)) rfl (by kernel_rfl) (by kernel_rfl) (by kernel_rfl) (by kernel_rfl) (fun _ _ _ h => h) (Or.inl ⟨by rfl, fun W _ => ?_⟩) (fun h => absurd (h 23 (by simp)) (by decide)) ?_
          · go_simp
          refine wpAnyS_one (i := 25) (by kernel_rfl) ?_
          refine wpOp_step rfl (fun K' hK' => ?_)
          rw [if_pos (by rfl)]
          go_simp
          refine hK' _ _ ⟨fun h => absurd (h 23 (by simp)) (by decide), ?_⟩
          clear hK' K'
          refine wpAnyS_done (by kernel_rfl) ?_ _
          generalize hlok : Dom.ft p f r (2 * m) k = lo at *
          generalize hhik : Dom.ft p f r (2 * m) (m + k) = hi at *
          have HFN : Hid (((wq.setCell ⟨g, o + k, none⟩ (.int .i64 lo)).setCell ⟨g, o + (m + k), none⟩ (.int .i64 hi)).drew.rowIs g 3 N1 (up2 F' (o + k) (.int .i64 lo) (o + (m + k)) (.int .i64 hi))) := rowIs_two (w := wq.drew) HFQ.out _ _ _ _
          have HGN : Hid (((wq.setCell ⟨g, o + k, none⟩ (.int .i64 lo)).setCell ⟨g, o + (m + k), none⟩ (.int .i64 hi)).drew.rowIs h 3 N2 G2) := (HGQ.out.setOther (a := ⟨g, o + k, none⟩) hgh.symm _).setOther (a := ⟨g, o + (m + k), none⟩) hgh.symm _
          have HPN : Hid (Pair g h w3 ((wq.setCell ⟨g, o + k, none⟩ (.int .i64 lo)).setCell ⟨g, o + (m + k), none⟩ (.int .i64 hi)).drew) := (HPQ.out.setCell (p := ⟨g, o + k, none⟩) (.inl rfl) _).setCell (p := ⟨g, o + (m + k), none⟩) (.inl rfl) _
          have HPC : Hid (((wq.setCell ⟨g, o + k, none⟩ (.int .i64 lo)).setCell ⟨g, o + (m + k), none⟩ (.int .i64 hi)).drew.cell? ⟨b, 0, none⟩ = some (.int .i64 p)) := (HPN.out.cell (p := ⟨b, 0, none⟩) (by show b < w3.heap.size; omega) hbg hbh).trans hpc3
          have HCC : ((wq.setCell ⟨g, o + k, none⟩ (.int .i64 lo)).setCell ⟨g, o + (m + k), none⟩ (.int .i64 hi)).cell? ⟨w.heap.size, 0, none⟩ = some (.pointer (some ⟨b, 0, none⟩)) := (HPN.out.cell (p := ⟨w.heap.size, 0, none⟩) (by show w.heap.size < w3.heap.size; omega) n1 n2).trans ce0
          have HLN : Hid (∀ j, j < k + 1 → up2 F' (o + k) (.int .i64 lo) (o + (m + k)) (.int .i64 hi) (o + j) = .int .i64 (Dom.ft p f r (2 * m) j)) := fun j hj => by
            unfold up2
            rw [if_neg (by omega)]
            by_cases e : j = k
            · rw [if_pos (by omega), e, hlok]
            · rw [if_neg (by omega)]; exact HLO.out j (by omega)
          have HHN : Hid (∀ j, j < k + 1 → up2 F' (o + k) (.int .i64 lo) (o + (m + k)) (.int .i64 hi) (o + (m + j)) = .int .i64 (Dom.ft p f r (2 * m) (m + j))) := fun j hj => by
            unfold up2
            by_cases e : j = k
            · rw [if_pos (by omega), e, hhik]
            · rw [if_neg (by omega), if_neg (by omega)]; exact HHI.out j (by omega)
          have HON : Hid (∀ j, j < o ∨ o + 2 * m ≤ j → up2 F' (o + k) (.int .i64 lo) (o + (m + k)) (.int .i64 hi) j = F j) := fun j hj => by
            unfold up2
            rw [if_neg (by omega), if_neg (by omega)]; exact HOU.out j hj
          clear hlok hhik i4 i5 i6 i3
          go_wp2_with fail
          refine (HXS.out _ HPC.out).mono ?_
          rintro e w6 ⟨rfl, rfl⟩
          clear hlt4 HEX HOX xb1 xb2 rb1 rb2 q1 q2 v1 v2 v3 v4 hpq hne sl1 sl2 sl3 x0 e1 e2
          have i7 : IntKind.i64.wrap ((k : Int) + 1) = (k : Int) + 1 := by rw [IntKind.wrap_i64]; omega
          go_wp2_with fail
          go_roundw
          case rel => exact ⟨k + 1, _, by omega, by go_num, by rw [HXN.out], HFN, HGN, HLN, HHN, HON, HPN⟩
          case measure => simp [intOf]; omega
        · have hlt2 : ¬ (k : Int) < (m : Int) := by omega
          have HPE : Hid (Pair g h w wr) := HPA2.out.trans hpair.out
          have HFE : Hid (∀ j, j < 2 * m → F' (o + j) = .int .i64 (Dom.ft p f r (2 * m) j)) := fun j hj => by
            by_cases hjm : j < m
            · exact hlo.out j (by omega)
            · have := hhi.out (j - m) (by omega)
              rwa [show m + (j - m) = j from by omega] at this
          go_wp2_with fail
          go_end0
          exact ⟨rfl, HPE.out, F', hF1.out, G2, hG1.out, HFE.out, hout.out, HZ.out⟩

theorem spread_all (p b : Nat) (hpr : Num.Prime p) (h3 : 3 ≤ p) (hm : p ≤ 2147483647) : ∀ k, k ≤ 16 → SpreadAt p b (2 ^ k)
  | 0, _ => spread_one p b
  | k + 1, hk => by
    have := spread_step p b (2 ^ k) hpr h3 hm (Nat.pow_pos (by decide)) (Nat.le_trans (Nat.pow_le_pow_right (by decide) (show k ≤ 16 by omega)) (by decide)) (spread_all p b hpr h3 hm k (by omega))
    rwa [show 2 ^ (k + 1) = 2 * 2 ^ k from by rw [Nat.pow_succ]; omega]

end Go.Proofs.YtidkhgplejglaacDoor
