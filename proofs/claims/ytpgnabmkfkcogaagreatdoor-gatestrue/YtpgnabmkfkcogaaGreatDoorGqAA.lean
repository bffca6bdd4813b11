/- Package gates: isBelow, isSize, hasSizes. Package gates: hasSizes, hasGates, faultOf. What package attestref1 answers of polynomials: Scaled, Minus, Times, for every list. -/
import Derived.Test.YtpgnabmkfkcogaaGreatDoorGtA
import Derived.Test.YtpgnabmkfkcogaaGreatDoorDoms
import Derived.Test.YtpgnabmkfkcogaaGreatDoorSpgs
import Derived.Test.YtpgnabmkfkcogaaGreatDoorPls
namespace Go.Proofs.YtpgnabmkfkcogaaGreatDoor
open Go.RowKit

set_option maxRecDepth 100000 in
theorem isBelow_any (n bound : Int) (w : World) : Calls Tryz.prog 208 #[.int .i64 n, .int .i64 bound] w fun e w' => e = .returned (.bool (decide (0 ≤ n ∧ n < bound))) ∧ w' = w := by
  by_cases h1 : 0 ≤ n
  · by_cases h2 : n < bound
    · rw [show decide (0 ≤ n ∧ n < bound) = true from by simp [h1, h2]]
      go_enter Tryz.func208, Tryz.ntmps208
      go_wp2_with fail
      go_ret
      exact ⟨rfl, rfl⟩
    · rw [show decide (0 ≤ n ∧ n < bound) = false from by simp [h2]]
      go_enter Tryz.func208, Tryz.ntmps208
      go_wp2_with fail
      go_ret
      exact ⟨rfl, rfl⟩
  · rw [show decide (0 ≤ n ∧ n < bound) = false from by simp [h1]]
    go_enter Tryz.func208, Tryz.ntmps208
    go_wp2_with fail
    go_ret
    exact ⟨rfl, rfl⟩

set_option maxRecDepth 100000 in
theorem isSize_any (n : Nat) (w : World) (hn : n ≤ 281474976710656) : Calls Tryz.prog 211 #[.int .i64 (n : Int)] w fun e w' => e = .returned (.bool (decide (0 ≤ wdz n))) ∧ w' = w := by
  by_cases h1 : n ≤ 64
  · have HO := hid (ones_any n w (by omega))
    have h2 : (n : Int) ≤ 64 := by omega
    have HB : Hid ((((pnz n : Nat) : Int) == 1) = decide (0 ≤ wdz n)) := by
      unfold Hid
      rw [Bool.eq_iff_iff, beq_iff_eq, decide_eq_true_eq, wdz_iff]
      constructor
      · intro h
        obtain ⟨k, hk, rfl⟩ := (pnz_one (n := n) (by omega)).1 (by omega)
        refine ⟨k, ?_, rfl⟩
        rcases Nat.lt_or_ge 6 k with g | g
        · have : 2 ^ 7 ≤ 2 ^ k := Nat.pow_le_pow_right (by omega) g
          omega
        · exact g
      · rintro ⟨v, hv, rfl⟩
        rw [(pnz_one (by omega)).2 ⟨v, by omega, rfl⟩]
        rfl
    generalize pnz n = z at *
    generalize decide (0 ≤ wdz n) = B at *
    go_enter Tryz.func211, Tryz.ntmps211
    go_wp2_with fail
    refine HO.out.mono ?_
    rintro e w1 ⟨rfl, rfl⟩
    go_wp2_with fail
    go_ret
    exact ⟨by rw [← HB.out]; rfl, rfl⟩
  · have h2 : ¬ (n : Int) ≤ 64 := by omega
    have HB : decide (0 ≤ wdz n) = false := by
      rw [decide_eq_false_iff_not, wdz_iff]
      rintro ⟨v, hv, rfl⟩
      have := pow_6 hv
      omega
    rw [HB]
    clear HB
    go_enter Tryz.func211, Tryz.ntmps211
    go_wp2_with fail
    go_ret
    exact ⟨rfl, rfl⟩

set_option maxRecDepth 100000 in
theorem noSize_any (n cap : Nat) (a : Option Addr) (w : World) (hn : n ≤ 281474976710656) : Calls Tryz.prog 210 #[.slice a n cap] w fun e w' => e = .returned (.bool (!(decide (0 ≤ wdz n)))) ∧ w' = w := by
  have HI := hid (isSize_any n w hn)
  generalize decide (0 ≤ wdz n) = B at *
  go_enter Tryz.func210, Tryz.ntmps210
  go_wp2_with fail
  refine HI.out.mono ?_
  rintro e w1 ⟨rfl, rfl⟩
  go_wp2_with fail
  go_ret
  exact ⟨rfl, rfl⟩

/-- may all layers have so many? -/
def szB (lys : List (List GatZ)) : Bool := lys.all fun r => decide (0 ≤ wdz r.length)
theorem szB_yes {lys : List (List GatZ)} (h : ∀ k, k < lys.length → 0 ≤ wdz (lyt lys k).length) : szB lys = true := by
  unfold szB
  rw [List.all_eq_true]
  intro r hr
  obtain ⟨k, hk, rfl⟩ := List.mem_iff_getElem.1 hr
  have := h k hk
  simp [lyt, hk] at this
  simp [this]
theorem szB_at {lys : List (List GatZ)} (h : szB lys = true) {k : Nat} (hk : k < lys.length) : 0 ≤ wdz (lyt lys k).length := by
  unfold szB at h
  rw [List.all_eq_true] at h
  have := h lys[k] (List.getElem_mem hk)
  simp at this
  simp [lyt, hk, this]
theorem szB_no {lys : List (List GatZ)} {k : Nat} (hk : k < lys.length) (h : ¬ 0 ≤ wdz (lyt lys k).length) : szB lys = false := by
  cases e : szB lys with
  | false => rfl
  | true => exact absurd (szB_at e hk) h

set_option maxRecDepth 100000 in
set_option maxHeartbeats 1000000 in
theorem gindex_any (cap : Nat) (a : Option Addr) (rows : List (List GatZ)) (w : World) (hlen : rows.length ≤ 281474976710656) (hlens : ∀ k, k < rows.length → (lyt rows k).length ≤ 281474976710656) (hl : LstGG w.heap.size w a cap rows) :
    Calls Tryz.prog 252 #[.slice a rows.length cap, .func (.func 210) #[] #[]] w fun e w' => (∃ r : Int, e = .returned (.int .i64 r) ∧ decide (0 ≤ r) = !(szB rows)) ∧ w' = w := by
  have hcf := enters_of Tryz.func210 (by kernel_rfl) (by kernel_rfl)
  have HL := hid hl
  have HE1 : Hid (∀ (k : Nat) (ak : Option Addr) (ck : Nat), k < rows.length → Calls Tryz.prog 210 #[.slice ak (lyt rows k).length ck] w fun e w' => e = .returned (.bool (!(decide (0 ≤ wdz (lyt rows k).length)))) ∧ w' = w) := fun k ak ck hk => noSize_any _ ck ak w (hlens k hk)
  obtain ⟨n, hn⟩ : ∃ n, n = rows.length := ⟨_, rfl⟩
  rw [← hn] at hlen ⊢
  have HN := hid hn
  obtain ⟨R, hR⟩ : ∃ R, R = szB rows := ⟨_, rfl⟩
  have HR := hid hR
  rw [← hR]
  clear hl hn hR hlens
  go_enter Tryz.func252, Tryz.ntmps252
  go_wp2_with fail
  go_loop [8] (fun iv => ∃ k : Nat, k ≤ n ∧ iv = .int .i64 k ∧ Hid (∀ j, j < k → 0 ≤ wdz (lyt rows j).length)) (fun iv => n - (intOf iv).toNat)
  case atStart => exact ⟨0, by omega, rfl, fun j hj => by omega⟩
  case round =>
    obtain ⟨k, hk, rfl, hI⟩ := hrel
    by_cases hlt : k < n
    · have hlt2 : (k : Int) < (n : Int) := by omega
      have hks : IntKind.i64.wrap ((k : Int) + 1) = (k : Int) + 1 := by rw [IntKind.wrap_i64]; omega
      obtain ⟨b0, o0, ak, ck, rfl, _, hc, _⟩ := HL.out.row k (by rw [← HN.out]; exact hlt)
      have HX := HE1.out k ak ck (by rw [← HN.out]; exact hlt)
      by_cases hb : 0 ≤ wdz (lyt rows k).length
      · have q : decide (0 ≤ wdz (lyt rows k).length) = true := by rw [decide_eq_true_eq]; exact hb
        rw [q] at HX
        have HXX := hid HX
        have HE : Hid (∀ j, j < k + 1 → 0 ≤ wdz (lyt rows j).length) := fun j hj => by
          by_cases e : j = k
          · rw [e]; exact hb
          · exact hI.out j (by omega)
        clear hI HX hb q
        generalize (lyt rows k).length = L at *
        go_wp2_with fail
        refine HXX.out.mono ?_
        rintro e w1 ⟨rfl, rfl⟩
        go_wp2_with fail
        go_round
        case rel => exact ⟨k + 1, by omega, by go_num, HE⟩
        case measure => simp [intOf]; omega
      · have q : decide (0 ≤ wdz (lyt rows k).length) = false := by rw [decide_eq_false_iff_not]; exact hb
        rw [q] at HX
        have HXX := hid HX
        have HE : Hid (R = false) := by unfold Hid; rw [HR.out]; exact szB_no (by rw [← HN.out]; exact hlt) hb
        clear hI HX hb q
        generalize (lyt rows k).length = L at *
        go_wp2_with fail
        refine HXX.out.mono ?_
        rintro e w1 ⟨rfl, rfl⟩
        go_wp2_with fail
        go_ret
        refine ⟨⟨(k : Int), rfl, ?_⟩, rfl⟩
        rw [HE.out]
        simp
    · obtain rfl : k = n := by omega
      have hlt2 : ¬ (k : Int) < (k : Int) := by omega
      have HE : Hid (R = true) := by unfold Hid; rw [HR.out]; exact szB_yes (fun j hj => hI.out j (by rw [HN.out]; exact hj))
      clear hI
      go_wp2_with fail
      go_ret
      refine ⟨⟨-1, rfl, ?_⟩, rfl⟩
      rw [HE.out]
      simp

set_option maxRecDepth 100000 in
theorem gcontains_any (cap : Nat) (a : Option Addr) (rows : List (List GatZ)) (w : World) (hlen : rows.length ≤ 281474976710656) (hlens : ∀ k, k < rows.length → (lyt rows k).length ≤ 281474976710656) (hl : LstGG w.heap.size w a cap rows) :
    Calls Tryz.prog 209 #[.slice a rows.length cap, .func (.func 210) #[] #[]] w fun e w' => e = .returned (.bool (!(szB rows))) ∧ w' = w := by
  have HI := hid (gindex_any cap a rows w hlen hlens hl)
  clear hl hlens
  generalize szB rows = E at *
  generalize rows.length = n at *
  go_enter Tryz.func209, Tryz.ntmps209
  go_wp2_with fail
  refine HI.out.mono ?_
  rintro e w1 ⟨⟨r, rfl, hr⟩, rfl⟩
  have HRR := hid hr
  clear hr HI
  go_wp2_with fail
  go_ret
  exact ⟨by rw [← HRR.out]; rfl, rfl⟩

end Go.Proofs.YtpgnabmkfkcogaaGreatDoor

namespace Go.Proofs.YtpgnabmkfkcogaaGreatDoor
open Go.RowKit

/-- a block of a call's own in a new world -/
theorem own_blk {w W : World} {cs : Array Value} {t : TypeId} (h : W = w.alloc (.cells cs t)) : Below w.heap.size w W ∧ W.heap[w.heap.size]? = some (.cells cs t (0, 0)) ∧ W.heap.size = w.heap.size + 1 := by
  subst h
  exact ⟨(Below.refl _ _).alloc (Nat.le_refl _) _, heap_alloc_new w _, by simp⟩

noncomputable def szD (wide : Int) (lys : List (List GatZ)) : Bool := @decide (SzC wide lys) (Classical.propDecidable _)
theorem szD_yes {wide : Int} {lys : List (List GatZ)} (h : SzC wide lys) : szD wide lys = true := @decide_eq_true _ (Classical.propDecidable _) h
theorem szD_no {wide : Int} {lys : List (List GatZ)} (h : ¬ SzC wide lys) : szD wide lys = false := @decide_eq_false _ (Classical.propDecidable _) h
noncomputable def gtD (wide : Int) (lys : List (List GatZ)) : Bool := @decide (GtC wide lys) (Classical.propDecidable _)
theorem gtD_yes {wide : Int} {lys : List (List GatZ)} (h : GtC wide lys) : gtD wide lys = true := @decide_eq_true _ (Classical.propDecidable _) h
theorem gtD_no {wide : Int} {lys : List (List GatZ)} (h : ¬ GtC wide lys) : gtD wide lys = false := @decide_eq_false _ (Classical.propDecidable _) h

set_option maxRecDepth 100000 in
set_option maxHeartbeats 1000000 in
theorem hasSizes_any (wide : Int) (cL : Nat) (aL : Option Addr) (lys : List (List GatZ)) (w : World) (hB : CirB lys) (hl : LstGG w.heap.size w aL cL lys) :
    Calls Tryz.prog 158 #[.agg #[.int .i64 wide, .slice aL lys.length cL]] w fun e w' => e = .returned (.bool (szD wide lys)) ∧ Below w.heap.size w w' := by
  obtain ⟨W0, hW0⟩ : ∃ W0, W0 = w.alloc (.cells #[.int .i64 wide, .slice aL lys.length cL] 69) := ⟨_, rfl⟩
  obtain ⟨hb0, hs0, hz0⟩ := own_blk hW0
  obtain ⟨G, hG⟩ : ∃ G, G = w.heap.size := ⟨_, rfl⟩
  rw [← hG] at hs0
  have c0 : W0.cell? ⟨G, 0, none⟩ = some (.int .i64 wide) := by simp [World.cell?, hs0]
  have c1 : W0.cell? ⟨G, 1, none⟩ = some (.slice aL lys.length cL) := by simp [World.cell?, hs0]
  have HBW := hid (isBelow_any wide 7 W0)
  have HGC := hid (gcontains_any cL aL lys W0 hB.len hB.lens (hl.step hb0))
  have HB0 := hid hb0
  have HWG := hid hW0
  have HG := hid hG
  have hlen := hB.len
  obtain ⟨n, hn⟩ : ∃ n, n = lys.length := ⟨_, rfl⟩
  have HN := hid hn
  rw [← hn] at c1 HGC hlen HWG ⊢
  by_cases h1 : 0 ≤ wide ∧ wide < 7
  · have q1 : decide (0 ≤ wide ∧ wide < 7) = true := by rw [decide_eq_true_eq]; exact h1
    rw [q1] at HBW
    by_cases h2 : n < 1
    · have h2' : (n : Int) < 1 := by omega
      rw [szD_no (fun h => by have := h.2.1.1; omega)]
      clear hl hb0 hs0 hW0 hG hn hB q1 hz0 h1 h2
      go_enter Tryz.func158, Tryz.ntmps158
      go_wp2_with fail
      rw [← HG.out, ← HWG.out]
      refine HBW.out.mono ?_
      rintro e w1 ⟨rfl, hw⟩
      have hw1 := hw.symm
      subst hw1
      clear hw
      go_wp2_with fail
      go_ret
      exact ⟨rfl, HB0.out⟩
    · have h2' : ¬ (n : Int) < 1 := by omega
      by_cases h3 : 8 < n
      · have h3' : (8 : Int) < (n : Int) := by omega
        rw [szD_no (fun h => by have := h.2.1.2; omega)]
        clear hl hb0 hs0 hW0 hG hn hB q1 hz0 h1 h2 h3
        go_enter Tryz.func158, Tryz.ntmps158
        go_wp2_with fail
        rw [← HG.out, ← HWG.out]
        refine HBW.out.mono ?_
        rintro e w1 ⟨rfl, hw⟩
        have hw1 := hw.symm
        subst hw1
        clear hw
        go_wp2_with fail
        go_ret
        exact ⟨rfl, HB0.out⟩
      · have h3' : ¬ (8 : Int) < (n : Int) := by omega
        have HS : Hid (szD wide lys = szB lys) := by
          unfold Hid
          cases e : szB lys with
          | true => exact szD_yes ⟨by omega, by omega, fun k hk => szB_at e hk⟩
          | false => exact szD_no (fun h => by rw [szB_yes h.2.2] at e; cases e)
        generalize szD wide lys = D at *
        generalize szB lys = E at *
        clear hl hb0 hs0 hW0 hG hn hB q1 hz0 h1 h2 h3
        go_enter Tryz.func158, Tryz.ntmps158
        go_wp2_with fail
        rw [← HG.out, ← HWG.out]
        refine HBW.out.mono ?_
        rintro e w1 ⟨rfl, hw⟩
        have hw1 := hw.symm
        subst hw1
        clear hw
        go_wp2_with fail
        refine HGC.out.mono ?_
        rintro e w1 ⟨rfl, hw⟩
        have hw1 := hw.symm
        subst hw1
        clear hw
        go_wp2_with fail
        go_ret
        exact ⟨by rw [HS.out]; simp, HB0.out⟩
  · have q1 : decide (0 ≤ wide ∧ wide < 7) = false := by rw [decide_eq_false_iff_not]; exact h1
    rw [q1] at HBW
    rw [szD_no (fun h => by have := h.1; omega)]
    clear hl hb0 hs0 hW0 hG hn hB q1 hz0 h1
    go_enter Tryz.func158, Tryz.ntmps158
    go_wp2_with fail
    rw [← HG.out, ← HWG.out]
    refine HBW.out.mono ?_
    rintro e w1 ⟨rfl, hw⟩
    have hw1 := hw.symm
    subst hw1
    clear hw
    go_wp2_with fail
    go_ret
    exact ⟨rfl, HB0.out⟩

end Go.Proofs.YtpgnabmkfkcogaaGreatDoor

namespace Go.Proofs.YtpgnabmkfkcogaaGreatDoor
open Go.RowKit

theorem padd_can {p : Nat} (h3 : 3 ≤ p) (xs ys : List Int) : Pol.Can p (Pol.padd p xs ys) := Pol.mk_can (by omega) _ _
theorem psub_can {p : Nat} (h3 : 3 ≤ p) (xs ys : List Int) : Pol.Can p (Pol.psub p xs ys) := Pol.mk_can (by omega) _ _
end Go.Proofs.YtpgnabmkfkcogaaGreatDoor
