/- Package gates: isBelow, isSize, hasSizes. Package gates: hasSizes, hasGates, faultOf. What package attestref1 answers of polynomials: Scaled, Minus, Times, for every list. -/
import Derived.Test.YtaapbopcfpihbabGreatDoorGtA
import Derived.Test.YtaapbopcfpihbabGreatDoorDoms
import Derived.Test.YtaapbopcfpihbabGreatDoorSpgs
import Derived.Test.YtaapbopcfpihbabGreatDoorPls
namespace Go.Proofs.YtaapbopcfpihbabGreatDoor
open Go.RowKit

set_option maxRecDepth 100000 in
theorem isBelow_any (n bound : Int) (w : World) : Calls Tryz.prog 81 #[.int .i64 n, .int .i64 bound] w fun e w' => e = .returned (.bool (decide (0 ≤ n ∧ n < bound))) ∧ w' = w := by
  by_cases h1 : 0 ≤ n
  · by_cases h2 : n < bound
    · rw [show decide (0 ≤ n ∧ n < bound) = true from by simp [h1, h2]]
      go_enter Tryz.func81, Tryz.ntmps81
      go_wp2_with fail
      go_ret
      exact ⟨rfl, rfl⟩
    · rw [show decide (0 ≤ n ∧ n < bound) = false from by simp [h2]]
      go_enter Tryz.func81, Tryz.ntmps81
      go_wp2_with fail
      go_ret
      exact ⟨rfl, rfl⟩
  · rw [show decide (0 ≤ n ∧ n < bound) = false from by simp [h1]]
    go_enter Tryz.func81, Tryz.ntmps81
    go_wp2_with fail
    go_ret
    exact ⟨rfl, rfl⟩

set_option maxRecDepth 100000 in
theorem isSize_any (n : Nat) (w : World) (hn : n ≤ 281474976710656) : Calls Tryz.prog 84 #[.int .i64 (n : Int)] w fun e w' => e = .returned (.bool (decide (0 ≤ wdz n))) ∧ w' = w := by
  by_cases h1 : n ≤ 64
  · have HO := hid (ones_any n w (by omega))
    have h2 : (n : Int) ≤ 64 := by omega
    have HB : Hid ((((pnz n : Nat) : Int) == 1) = decide (0 ≤ wdz n)) := by
      unfold Hid
      rw [Bool.eq_iff_iff, beq_iff_eq, decide_eq_true_eq, wdz_iff]
      constructor
      · intro h
        obtain ⟨k, hk, rfl⟩ := (pnz_one (n := n) (by omega)).1 (by omega)
        refine ⟨k, ?_, rfl⟩
        rcases Nat.lt_or_ge 6 k with g | g
        · have : 2 ^ 7 ≤ 2 ^ k := Nat.pow_le_pow_right (by omega) g
          omega
        · exact g
      · rintro ⟨v, hv, rfl⟩
        rw [(pnz_one (by omega)).2 ⟨v, by omega, rfl⟩]
        rfl
    generalize pnz n = z at *
    generalize decide (0 ≤ wdz n) = B at *
    go_enter Tryz.func84, Tryz.ntmps84
    go_wp2_with fail
    refine HO.out.mono ?_
    rintro e w1 ⟨rfl, rfl⟩
    go_wp2_with fail
    go_ret
    exact ⟨by rw [← HB.out]; rfl, rfl⟩
  · have h2 : ¬ (n : Int) ≤ 64 := by omega
    have HB : decide (0 ≤ wdz n) = false := by
      rw [decide_eq_false_iff_not, wdz_iff]
      rintro ⟨v, hv, rfl⟩
      have := pow_6 hv
      omega
    rw [HB]
    clear HB
    go_enter Tryz.func84, Tryz.ntmps84
    go_wp2_with fail
    go_ret
    exact ⟨rfl, rfl⟩

set_option maxRecDepth 100000 in
theorem noSize_any (n cap : Nat) (a : Option Addr) (w : World) (hn : n ≤ 281474976710656) : Calls Tryz.prog 83 #[.slice a n cap] w fun e w' => e = .returned (.bool (!(decide (0 ≤ wdz n)))) ∧ w' = w := by
  have HI := hid (isSize_any n w hn)
  generalize decide (0 ≤ wdz n) = B at *
  go_enter Tryz.func83, Tryz.ntmps83
  go_wp2_with fail
  refine HI.out.mono ?_
  rintro e w1 ⟨rfl, rfl⟩
  go_wp2_with fail
  go_ret
  exact ⟨rfl, rfl⟩

/-- may all layers have so many? -/
def szB (lys : List (List GatZ)) : Bool := lys.all fun r => decide (0 ≤ wdz r.length)
theorem szB_yes {lys : List (List GatZ)} (h : ∀ k, k < lys.length → 0 ≤ wdz (lyt lys k).length) : szB lys = true := by
  unfold szB
  rw [List.all_eq_true]
  intro r hr
  obtain ⟨k, hk, rfl⟩ := List.mem_iff_getElem.1 hr
  have := h k hk
  simp [lyt, hk] at this
  simp [this]
theorem szB_at {lys : List (List GatZ)} (h : szB lys = true) {k : Nat} (hk : k < lys.length) : 0 ≤ wdz (lyt lys k).length := by
  unfold szB at h
  rw [List.all_eq_true] at h
  have := h lys[k] (List.getElem_mem hk)
  simp at this
  simp [lyt, hk, this]
theorem szB_no {lys : List (List GatZ)} {k : Nat} (hk : k < lys.length) (h : ¬ 0 ≤ wdz (lyt lys k).length) : szB lys = false := by
  cases e : szB lys with
  | false => rfl
  | true => exact absurd (szB_at e hk) h

set_option maxRecDepth 100000 in
set_option maxHeartbeats 1000000 in
theorem gindex_any (cap : Nat) (a : Option Addr) (rows : List (List GatZ)) (w : World) (hlen : rows.length ≤ 281474976710656) (hlens : ∀ k, k < rows.length → (lyt rows k).length ≤ 281474976710656) (hl : LstGG w.heap.size w a cap rows) :
    Calls Tryz.prog 112 #[.slice a rows.length cap, .func (.func 83) #[] #[]] w fun e w' => (∃ r : Int, e = .returned (.int .i64 r) ∧ decide (0 ≤ r) = !(szB rows)) ∧ w' = w := by
  have hcf := enters_of Tryz.func83 (by kernel_rfl) (by kernel_rfl)
  have HL := hid hl
  have HE1 : Hid (∀ (k : Nat) (ak : Option Addr) (ck : Nat), k < rows.length → Calls Tryz.prog 83 #[.slice ak (lyt rows k).length ck] w fun e w' => e = .returned (.bool (!(decide (0 ≤ wdz (lyt rows k).length)))) ∧ w' = w) := fun k ak ck hk => noSize_any _ ck ak w (hlens k hk)
  obtain ⟨n, hn⟩ : ∃ n, n = rows.length := ⟨_, rfl⟩
  rw [← hn] at hlen ⊢
  have HN := hid hn
  obtain ⟨R, hR⟩ : ∃ R, R = szB rows := ⟨_, rfl⟩
  have HR := hid hR
  rw [← hR]
  clear hl hn hR hlens
  go_enter Tryz.func112, Tryz.ntmps112
  go_wp2_with fail
  go_loop [8] (fun iv => ∃ k : Nat, k ≤ n ∧ iv = .int .i64 k ∧ Hid (∀ j, j < k → 0 ≤ wdz (lyt rows j).length)) (fun iv => n - (intOf iv).toNat)
  case atStart => exact ⟨0, by omega, rfl, fun j hj => by omega⟩
  case round =>
    obtain ⟨k, hk, rfl, hI⟩ := hrel
    by_cases hlt : k < n
    · have hlt2 : (k : Int) < (n : Int) := by omega
      have hks : IntKind.i64.wrap ((k : Int) + 1) = (k : Int) + 1 := by rw [IntKind.wrap_i64]; omega
      obtain ⟨b0, o0, ak, ck, rfl, _, hc, _⟩ := HL.out.row k (by rw [← HN.out]; exact hlt)
      have HX := HE1.out k ak ck (by rw [← HN.out]; exact hlt)
      by_cases hb : 0 ≤ wdz (lyt rows k).length
      · have q : decide (0 ≤ wdz (lyt rows k).length) = true := by rw [decide_eq_true_eq]; exact hb
        rw [q] at HX
        have HXX := hid HX
        have HE : Hid (∀ j, j < k + 1 → 0 ≤ wdz (lyt rows j).length) := fun j hj => by
          by_cases e : j = k
          · rw [e]; exact hb
          · exact hI.out j (by omega)
        clear hI HX hb q
        generalize (lyt rows k).length = L at *
        go_wp2_with fail
        refine HXX.out.mono ?_
        rintro e w1 ⟨rfl, rfl⟩
        go_wp2_with fail
        go_round
        case rel => exact ⟨k + 1, by omega, by go_num, HE⟩
        case measure => simp [intOf]; omega
      · have q : decide (0 ≤ wdz (lyt rows k).length) = false := by rw [decide_eq_false_iff_not]; exact hb
        rw [q] at HX
        have HXX := hid HX
        have HE : Hid (R = false) := by unfold Hid; rw [HR.out]; exact szB_no (by rw [← HN.out]; exact hlt) hb
        clear hI HX hb q
        generalize (lyt rows k).length = L at *
        go_wp2_with fail
        refine HXX.out.mono ?_
        rintro e w1 ⟨rfl, rfl⟩
        go_wp2_with fail
        go_ret
        refine ⟨⟨(k : Int), rfl, ?_⟩, rfl⟩
        rw [HE.out]
        simp
    · obtain rfl : k = n := by omega
      have hlt2 : ¬ (k : Int) < (k : Int) := by omega
      have HE : Hid (R = true) := by unfold Hid; rw [HR.out]; exact szB_yes (fun j hj => hI.out j (by rw [HN.out]; exact hj))
      clear hI
      go_wp2_with fail
      go_ret
      refine ⟨⟨-1, rfl, ?_⟩, rfl⟩
      rw [HE.out]
      simp

set_option maxRecDepth 100000 in
theorem gcontains_any (cap : Nat) (a : Option Addr) (rows : List (List GatZ)) (w : World) (hlen : rows.length ≤ 281474976710656) (hlens : ∀ k, k < rows.length → (lyt rows k).length ≤ 281474976710656) (hl : LstGG w.heap.size w a cap rows) :
    Calls Tryz.prog 82 #[.slice a rows.length cap, .func (.func 83) #[] #[]] w fun e w' => e = .returned (.bool (!(szB rows))) ∧ w' = w := by
  have HI := hid (gindex_any cap a rows w hlen hlens hl)
  clear hl hlens
  generalize szB rows = E at *
  generalize rows.length = n at *
  go_enter Tryz.func82, Tryz.ntmps82
  go_wp2_with fail
  refine HI.out.mono ?_
  rintro e w1 ⟨⟨r, rfl, hr⟩, rfl⟩
  have HRR := hid hr
  clear hr HI
  go_wp2_with fail
  go_ret
  exact ⟨by rw [← HRR.out]; rfl, rfl⟩

end Go.Proofs.YtaapbopcfpihbabGreatDoor

namespace Go.Proofs.YtaapbopcfpihbabGreatDoor
open Go.RowKit

/-- a block of a call's own in a new world -/
theorem own_blk {w W : World} {cs : Array Value} {t : TypeId} (h : W = w.alloc (.cells cs t)) : Below w.heap.size w W ∧ W.heap[w.heap.size]? = some (.cells cs t (0, 0)) ∧ W.heap.size = w.heap.size + 1 := by
  subst h
  exact ⟨(Below.refl _ _).alloc (Nat.le_refl _) _, heap_alloc_new w _, by simp⟩

noncomputable def szD (wide : Int) (lys : List (List GatZ)) : Bool := @decide (SzC wide lys) (Classical.propDecidable _)
theorem szD_yes {wide : Int} {lys : List (List GatZ)} (h : SzC wide lys) : szD wide lys = true := @decide_eq_true _ (Classical.propDecidable _) h
theorem szD_no {wide : Int} {lys : List (List GatZ)} (h : ¬ SzC wide lys) : szD wide lys = false := @decide_eq_false _ (Classical.propDecidable _) h
noncomputable def gtD (wide : Int) (lys : List (List GatZ)) : Bool := @decide (GtC wide lys) (Classical.propDecidable _)
theorem gtD_yes {wide : Int} {lys : List (List GatZ)} (h : GtC wide lys) : gtD wide lys = true := @decide_eq_true _ (Classical.propDecidable _) h
theorem gtD_no {wide : Int} {lys : List (List GatZ)} (h : ¬ GtC wide lys) : gtD wide lys = false := @decide_eq_false _ (Classical.propDecidable _) h

set_option maxRecDepth 100000 in
set_option maxHeartbeats 1000000 in
theorem hasSizes_any (wide : Int) (cL : Nat) (aL : Option Addr) (lys : List (List GatZ)) (w : World) (hB : CirB lys) (hl : LstGG w.heap.size w aL cL lys) :
    Calls Tryz.prog 47 #[.agg #[.int .i64 wide, .slice aL lys.length cL]] w fun e w' => e = .returned (.bool (szD wide lys)) ∧ Below w.heap.size w w' := by
  obtain ⟨W0, hW0⟩ : ∃ W0, W0 = w.alloc (.cells #[.int .i64 wide, .slice aL lys.length cL] 24) := ⟨_, rfl⟩
  obtain ⟨hb0, hs0, hz0⟩ := own_blk hW0
  obtain ⟨G, hG⟩ : ∃ G, G = w.heap.size := ⟨_, rfl⟩
  rw [← hG] at hs0
  have c0 : W0.cell? ⟨G, 0, none⟩ = some (.int .i64 wide) := by simp [World.cell?, hs0]
  have c1 : W0.cell? ⟨G, 1, none⟩ = some (.slice aL lys.length cL) := by simp [World.cell?, hs0]
  have HBW := hid (isBelow_any wide 7 W0)
  have HGC := hid (gcontains_any cL aL lys W0 hB.len hB.lens (hl.step hb0))
  have HB0 := hid hb0
  have HWG := hid hW0
  have HG := hid hG
  have hlen := hB.len
  obtain ⟨n, hn⟩ : ∃ n, n = lys.length := ⟨_, rfl⟩
  have HN := hid hn
  rw [← hn] at c1 HGC hlen HWG ⊢
  by_cases h1 : 0 ≤ wide ∧ wide < 7
  · have q1 : decide (0 ≤ wide ∧ wide < 7) = true := by rw [decide_eq_true_eq]; exact h1
    rw [q1] at HBW
    by_cases h2 : n < 1
    · have h2' : (n : Int) < 1 := by omega
      rw [szD_no (fun h => by have := h.2.1.1; omega)]
      clear hl hb0 hs0 hW0 hG hn hB q1 hz0 h1 h2
      go_enter Tryz.func47, Tryz.ntmps47
      go_wp2_with fail
      rw [← HG.out, ← HWG.out]
      refine HBW.out.mono ?_
      rintro e w1 ⟨rfl, hw⟩
      have hw1 := hw.symm
      subst hw1
      clear hw
      go_wp2_with fail
      go_ret
      exact ⟨rfl, HB0.out⟩
    · have h2' : ¬ (n : Int) < 1 := by omega
      by_cases h3 : 8 < n
      · have h3' : (8 : Int) < (n : Int) := by omega
        rw [szD_no (fun h => by have := h.2.1.2; omega)]
        clear hl hb0 hs0 hW0 hG hn hB q1 hz0 h1 h2 h3
        go_enter Tryz.func47, Tryz.ntmps47
        go_wp2_with fail
        rw [← HG.out, ← HWG.out]
        refine HBW.out.mono ?_
        rintro e w1 ⟨rfl, hw⟩
        have hw1 := hw.symm
        subst hw1
        clear hw
        go_wp2_with fail
        go_ret
        exact ⟨rfl, HB0.out⟩
      · have h3' : ¬ (8 : Int) < (n : Int) := by omega
        have HS : Hid (szD wide lys = szB lys) := by
          unfold Hid
          cases e : szB lys with
          | true => exact szD_yes ⟨by omega, by omega, fun k hk => szB_at e hk⟩
          | false => exact szD_no (fun h => by rw [szB_yes h.2.2] at e; cases e)
        generalize szD wide lys = D at *
        generalize szB lys = E at *
        clear hl hb0 hs0 hW0 hG hn hB q1 hz0 h1 h2 h3
        go_enter Tryz.func47, Tryz.ntmps47
        go_wp2_with fail
        rw [← HG.out, ← HWG.out]
        refine HBW.out.mono ?_
        rintro e w1 ⟨rfl, hw⟩
        have hw1 := hw.symm
        subst hw1
        clear hw
        go_wp2_with fail
        refine HGC.out.mono ?_
        rintro e w1 ⟨rfl, hw⟩
        have hw1 := hw.symm
        subst hw1
        clear hw
        go_wp2_with fail
        go_ret
        exact ⟨by rw [HS.out]; simp, HB0.out⟩
  · have q1 : decide (0 ≤ wide ∧ wide < 7) = false := by rw [decide_eq_false_iff_not]; exact h1
    rw [q1] at HBW
    rw [szD_no (fun h => by have := h.1; omega)]
    clear hl hb0 hs0 hW0 hG hn hB q1 hz0 h1
    go_enter Tryz.func47, Tryz.ntmps47
    go_wp2_with fail
    rw [← HG.out, ← HWG.out]
    refine HBW.out.mono ?_
    rintro e w1 ⟨rfl, hw⟩
    have hw1 := hw.symm
    subst hw1
    clear hw
    go_wp2_with fail
    go_ret
    exact ⟨rfl, HB0.out⟩

end Go.Proofs.YtaapbopcfpihbabGreatDoor

namespace Go.Proofs.YtaapbopcfpihbabGreatDoor
open Go.RowKit

theorem zat_app (k j : Nat) (ms : List Int) : zat (List.replicate k (0 : Int) ++ ms) j = if j < k then 0 else zat ms (j - k) := by
  unfold zat
  by_cases h : j < k
  · rw [if_pos h, List.getElem?_append_left (by simp; exact h)]; simp [h]
  · rw [if_neg h, List.getElem?_append_right (by simp; omega)]; simp

theorem pscale_ls {p : Nat} (h3 : 3 ≤ p) (zs : List Int) (c : Int) (k : Nat) : Pol.trim p (List.replicate k (0 : Int) ++ ls (fun j => zat zs j * c % (p : Int)) zs.length) = Pol.pscale p zs c k := by
  refine Pol.mk_congr (by omega) (Pol.cf_behind p _) (Pol.pscale_b p zs c k) (fun j => ?_)
  rw [show Pol.cf (List.replicate k (0 : Int) ++ ls (fun j => zat zs j * c % (p : Int)) zs.length) j = zat (List.replicate k (0 : Int) ++ ls (fun j => zat zs j * c % (p : Int)) zs.length) j from rfl, zat_app]
  simp only [Pol.sh, Pol.sc]
  by_cases h : j < k
  · rw [if_pos h, if_pos h]; simp
  · rw [if_neg h, if_neg h]
    by_cases h2 : j - k < zs.length
    · rw [ls_at _ _ _ h2, Int.mul_comm c]
      exact Pol.emod_dvd p _
    · rw [Pol.cf_ge (by omega)]
      have : zat (ls (fun j => zat zs j * c % (p : Int)) zs.length) (j - k) = 0 := by
        unfold zat; rw [List.getElem?_eq_none (by rw [ls_len]; omega)]; rfl
      rw [this]; simp

set_option maxHeartbeats 1000000 in
theorem rscaled_any (p k0 cap : Nat) (a : Option Addr) (zs : List Int) (c : Int) (w : World) (h3 : 3 ≤ p) (hm : p ≤ 2147483647)
    (hn : k0 + zs.length ≤ 17592186044416) (hfit : Fits zs) (hc1 : -9223372036854775808 ≤ c) (hc2 : c ≤ 9223372036854775807) (hrow : RowB w.heap.size w a zs) :
    Calls Tryz.prog 98 #[.int .i64 p, .slice a zs.length cap, .int .i64 c, .int .i64 k0] w fun e w' => ∃ a' c', e = .returned (.slice a' (Pol.pscale p zs c k0).length c') ∧ Lst w'.heap.size w' a' c' (Pol.pscale p zs c k0) ∧ Below w.heap.size w w' := by
  obtain ⟨i0, hi, hz0, hz1, hz2⟩ := info_parts Tryz.infoInt
  have HF := hid hfit
  have HR := hid hrow
  have HE := hid (pscale_ls h3 zs c k0)
  clear hfit hrow
  have hmk := fun n h1 h2 w => run_make_row' (P := Tryz.prog) 25 3 (.int .i64 0) 8 Tryz.underlying25 Tryz.infoInt rfl .i64 .i64 n h1 h2 w
  have hmk2 := hmk k0 (by omega) (by omega)
  clear hmk
  have HOZ := hid (owns_zeros w k0 (by unfold maxLen; omega))
  generalize Pol.pscale p zs c k0 = res at *
  go_enter Tryz.func98, Tryz.ntmps98
  go_wp2_with fail
  go_loopw [9, 10] (fun v iv wr => ∃ k : Nat, k ≤ zs.length ∧ iv = .int .i64 k ∧ wr.ownsRow w.heap.size 3 1 v (List.replicate k0 (0 : Int) ++ ls (fun j => zat zs j * c % (p : Int)) k).length ((List.replicate k0 (0 : Int) ++ ls (fun j => zat zs j * c % (p : Int)) k).map (Value.int .i64)) ∧ Below w.heap.size w wr)
    (fun _ iv _ => zs.length - (intOf iv).toNat)
  case atStart => exact ⟨0, Nat.zero_le _, rfl, by rw [show ls (fun j => zat zs j * c % (p : Int)) 0 = [] from rfl, List.append_nil]; exact HOZ.out, (Below.refl _ _).alloc (Nat.le_refl _) _⟩
  case round =>
    obtain ⟨k, hk, rfl, hown, hbel⟩ := hrel
    have hsz := hbel.size
    by_cases hlt : k < zs.length
    · have hlt2 : (k : Int) < (zs.length : Int) := by omega
      obtain ⟨bl, ol, rfl, hbl, hcl⟩ := HR.out k hlt
      have hcl2 := (hbel.cell (p := ⟨bl, ol + k, none⟩) hbl).trans hcl
      obtain ⟨hx1, hx2⟩ := HF.out k hlt
      have HLS : Hid (List.replicate k0 (0 : Int) ++ ls (fun j => zat zs j * c % (p : Int)) (k + 1) = (List.replicate k0 (0 : Int) ++ ls (fun j => zat zs j * c % (p : Int)) k) ++ [zat zs k * c % (p : Int)]) := by unfold Hid; rw [ls_succ, List.append_assoc]
      have HLL : Hid ((List.replicate k0 (0 : Int) ++ ls (fun j => zat zs j * c % (p : Int)) k).length = k0 + k) := by unfold Hid; rw [List.length_append, ls_len, List.length_replicate]
      generalize zat zs k = x at *
      clear hcl
      go_wp2_with fail
      refine (rmul_any p x c _ h3 hm hx1 hx2 hc1 hc2).mono ?_
      rintro e w1 ⟨rfl, rfl⟩
      generalize List.replicate k0 (0 : Int) ++ ls (fun j => zat zs j * c % (p : Int)) k = lk at *
      go_wp2_with (at_builtin; refine wpList_append_own _ rfl _ _ 25 rfl w.heap.size 3 i0 (.int .i64 0) 1 8 Tryz.underlying25 hi hz0 hz1 hz2 rfl (by decide) _ _ _ rfl (hown.alloc _) ⟨w1.heap.size, 0, none⟩ 1 1 [.int .i64 (x * c % (p : Int))] rfl rfl ?c1 ?c2 ?c3 ?c4 ?c5 ?_)
      case c1 =>
        intro j u hj
        match j, hj with
        | 0, hj => simp at hj; subst hj; simp [Addr.add]
      case c2 => intro u hu; simp at hu; subst hu; rfl
      case c3 => have := HLL.out; unfold maxLen; omega
      case c4 => have := HLL.out; omega
      case c5 => simp; omega
      intro v' w2 hown2 hgrow _
      have hown3 := owns_succ hown2
      have HB : Hid (Below w.heap.size w w2) := (hbel.alloc hsz _).grown hgrow (by simp; omega) (fun k hk => (hown.lt k hk).1)
      have HO := hid hown3
      clear hown2 hown3 hgrow hown hbel
      go_wp2_with fail
      go_roundw
      case rel => exact ⟨k + 1, by omega, by go_num, by rw [HLS.out]; exact HO.out, HB.out⟩
      case measure => simp [intOf]; omega
    · have hlt2 : ¬ (k : Int) < (zs.length : Int) := by omega
      obtain rfl : k = zs.length := by omega
      obtain ⟨a', c', rfl, hl⟩ := lst_of_owns hown
      have hll : (List.replicate k0 (0 : Int) ++ ls (fun j => zat zs j * c % (p : Int)) zs.length).length = k0 + zs.length := by rw [List.length_append, ls_len, List.length_replicate]
      have HT := hid (rtrim_any p c' a' (List.replicate k0 (0 : Int) ++ ls (fun j => zat zs j * c % (p : Int)) zs.length) wr h3 hm (by omega) (fun j hj => by
        rw [zat_app]
        by_cases h : j < k0
        · rw [if_pos h]; omega
        · rw [if_neg h, ls_at _ _ _ (by omega)]
          have := emod_bounds (zat zs (j - k0) * c) p h3
          omega) hl)
      rw [HE.out, hll] at HT
      rw [hll]
      clear hown hl hll
      go_wp2_with fail
      refine HT.out.mono ?_
      rintro e w1 ⟨a2', c2', rfl, hl2, hb2⟩
      have HL2 := hid hl2
      have HB2 : Hid (Below w.heap.size w w1) := hbel.trans (hb2.mono hsz)
      clear hl2 hb2
      go_wp2_with fail
      go_ret
      exact ⟨_, _, rfl, HL2.out, HB2.out⟩

theorem pscale_can {p : Nat} (h3 : 3 ≤ p) (zs : List Int) (c : Int) (k : Nat) : Pol.Can p (Pol.pscale p zs c k) := Pol.mk_can (by omega) _ _
theorem padd_can {p : Nat} (h3 : 3 ≤ p) (xs ys : List Int) : Pol.Can p (Pol.padd p xs ys) := Pol.mk_can (by omega) _ _
theorem psub_can {p : Nat} (h3 : 3 ≤ p) (xs ys : List Int) : Pol.Can p (Pol.psub p xs ys) := Pol.mk_can (by omega) _ _
theorem fits_of_can {p : Nat} (hm : p ≤ 2147483647) {zs : List Int} (h : Pol.Can p zs) : Fits zs := fun j hj => by
  have := h.elem j hj
  have e : zat zs j = zs.getD j 0 := rfl
  omega

/-- the product while the first i of xs are taken -/
def tm (p : Nat) (xs ys : List Int) (i : Nat) : List Int := Pol.mk p (Pol.mul (Pol.lo i (Pol.cf xs)) (Pol.cf ys)) (i + ys.length)

theorem tm_b (p : Nat) (xs ys : List Int) (i : Nat) : ∀ j, i + ys.length ≤ j → Pol.mul (Pol.lo i (Pol.cf xs)) (Pol.cf ys) j % (p : Int) = 0 := fun j hj => by
  have : Pol.mul (Pol.lo i (Pol.cf xs)) (Pol.cf ys) j = 0 := Pol.ml_zero_beyond _ _ i ys.length (fun j h => by simp only [Pol.lo]; rw [if_neg (by omega)]) (fun j h => Pol.cf_ge h) j (by omega)
  rw [this]; simp
theorem tm_zero (p : Nat) (xs ys : List Int) : tm p xs ys 0 = [] := by
  have : (tm p xs ys 0).length = 0 := by
    rw [tm, Pol.mk_length]
    exact Nat.le_zero.1 (Pol.tp_bound (fun j _ => by rw [Pol.lo_zero, Pol.zero_mul]; exact Int.dvd_zero _))
  exact List.length_eq_zero_iff.1 this
theorem tm_succ {p : Nat} (h3 : 3 ≤ p) (xs ys : List Int) (i : Nat) : Pol.padd p (tm p xs ys i) (Pol.pscale p ys (zat xs i) i) = tm p xs ys (i + 1) := by
  refine Pol.mk_congr (by omega) (Pol.padd_b p _ _) (tm_b p xs ys (i + 1)) ?_
  rw [Pol.lo_mul_succ]
  exact (Pol.mk_eqp (tm_b p xs ys i)).add (Pol.pscale_eqp p ys (zat xs i) i)
theorem tm_done {p : Nat} (h3 : 3 ≤ p) (xs ys : List Int) : tm p xs ys xs.length = Pol.pmul p xs ys := by
  refine Pol.mk_congr (by omega) (tm_b p xs ys xs.length) (Pol.pmul_b p xs ys) ?_
  rw [Pol.lo_len]; exact Pol.Eqp.refl _ _
theorem tm_le (p : Nat) (xs ys : List Int) (i : Nat) : (tm p xs ys i).length ≤ i + ys.length := by rw [tm, Pol.mk_length]; exact Pol.tp_le _ _ _
theorem tm_can {p : Nat} (h3 : 3 ≤ p) (xs ys : List Int) (i : Nat) : Pol.Can p (tm p xs ys i) := Pol.mk_can (by omega) _ _

set_option maxHeartbeats 1000000 in
theorem rtimes_any (p c1 c2 : Nat) (a1 a2 : Option Addr) (xs ys : List Int) (w : World) (h3 : 3 ≤ p) (hm : p ≤ 2147483647)
    (hn : xs.length + ys.length ≤ 17592186044416) (hf1 : Fits xs) (hf2 : Fits ys) (hl1 : RowB w.heap.size w a1 xs) (hl2 : RowB w.heap.size w a2 ys) :
    Calls Tryz.prog 127 #[.int .i64 p, .slice a1 xs.length c1, .slice a2 ys.length c2] w fun e w' => ∃ a' c', e = .returned (.slice a' (Pol.pmul p xs ys).length c') ∧ Lst w'.heap.size w' a' c' (Pol.pmul p xs ys) ∧ Below w.heap.size w w' := by
  have HF1 := hid hf1
  have HF2 := hid hf2
  have HR1 := hid hl1
  have HR2 := hid hl2
  clear hf1 hf2 hl1 hl2
  go_enter Tryz.func127, Tryz.ntmps127
  go_wp2_with fail
  go_loopw [7, 8] (fun v iv wr => ∃ (k : Nat) (ao : Option Addr) (co : Nat), k ≤ xs.length ∧ iv = .int .i64 k ∧ v = .slice ao (tm p xs ys k).length co ∧ Hid (Lst wr.heap.size wr ao co (tm p xs ys k)) ∧ Hid (Below w.heap.size w wr))
    (fun _ iv _ => xs.length - (intOf iv).toNat)
  case atStart => exact ⟨0, none, 0, Nat.zero_le _, rfl, by rw [tm_zero]; rfl, by rw [tm_zero]; exact Lst.none _ _, Below.refl _ _⟩
  case round =>
    obtain ⟨k, ao, co, hk, rfl, rfl, hlst, hbel⟩ := hrel
    by_cases hlt : k < xs.length
    · have hlt2 : (k : Int) < (xs.length : Int) := by omega
      have HR2' := hid ((HR2.out.below hbel.out).mono hbel.out.size)
      obtain ⟨bl, ol, rfl, hbl, hcl⟩ := HR1.out k hlt
      have hcl2 := (hbel.out.cell (p := ⟨bl, ol + k, none⟩) hbl).trans hcl
      obtain ⟨hx1, hx2⟩ := HF1.out k hlt
      have HS := hid (rscaled_any p k c2 a2 ys (zat xs k) wr h3 hm (by omega) HF2.out hx1 hx2 HR2'.out)
      have HP : Hid (∀ (a' : Option Addr) (c' : Nat) (w1 : World), Below wr.heap.size wr w1 → Lst w1.heap.size w1 a' c' (Pol.pscale p ys (zat xs k) k) → Calls Tryz.prog 99 #[.int .i64 p, .slice ao (tm p xs ys k).length co, .slice a' (Pol.pscale p ys (zat xs k) k).length c'] w1 fun e w' => ∃ a'' c'', e = .returned (.slice a'' (tm p xs ys (k + 1)).length c'') ∧ Lst w'.heap.size w' a'' c'' (tm p xs ys (k + 1)) ∧ Below w1.heap.size w1 w') := fun a' c' w1 hb hl => by
        have := rplus_any p co c' ao a' (tm p xs ys k) (Pol.pscale p ys (zat xs k) k) w1 h3 hm (by have := tm_le p xs ys k; omega) (by have := Pol.pscale_le p ys (zat xs k) k; omega) (fits_of_can hm (tm_can h3 _ _ _)) (fits_of_can hm (pscale_can h3 _ _ _)) ((hlst.out.row.below hb).mono hb.size) hl.row
        rw [tm_succ h3] at this
        exact this
      generalize Pol.pscale p ys (zat xs k) k = sc at *
      generalize zat xs k = x at *
      generalize tm p xs ys k = tk at *
      clear hcl
      go_wp2_with fail
      refine HS.out.mono ?_
      rintro e w1 ⟨a', c', rfl, hl, hb⟩
      have HL := hid hl
      have HB := hid hb
      clear hl hb
      go_wp2_with fail
      refine (HP.out _ _ _ HB.out HL.out).mono ?_
      rintro e w2 ⟨a2', c2', rfl, hl2, hb2⟩
      have HL2 := hid hl2
      have HB2 : Hid (Below w.heap.size w w2) := hbel.out.trans ((HB.out.mono hbel.out.size).trans (hb2.mono (Nat.le_trans hbel.out.size HB.out.size)))
      clear hl2 hb2
      go_wp2_with fail
      go_roundw
      case rel => exact ⟨k + 1, _, _, by omega, by go_num, rfl, HL2, HB2⟩
      case measure => simp [intOf]; omega
    · have hlt2 : ¬ (k : Int) < (xs.length : Int) := by omega
      obtain rfl : k = xs.length := by omega
      rw [tm_done h3]
      rw [tm_done h3] at hlst
      go_wp2_with fail
      go_ret
      exact ⟨_, _, rfl, hlst.out, hbel.out⟩

end Go.Proofs.YtaapbopcfpihbabGreatDoor
