/- attestref8.Table for any size. A run's table breaks no rule, and its pairs are alike: plainly. Chapter 13's example, reckoned; attestlaw7's plain and lives. Package rules: a view in memory; its small functions. Package rules: the cells of an instruction; sums of terms. -/
import Derived.Test.YtfppkjpgihnibaaGreatRvP
import Derived.Test.YtfppkjpgihnibaaGreatShwAZ
import Derived.Test.YtfppkjpgihnibaaGreatShwAY
import Derived.Test.YtfppkjpgihnibaaGreatShwAN
import Derived.Test.YtfppkjpgihnibaaGreatFld
import Derived.Deep.RegionHeld3
namespace Go.Proofs.YtfppkjpgihnibaaGreat
open Go.RowKit Go.Maps

theorem TabG.row {p : Nat} {L : List InsZ} {st : List (List Int)} {n : Nat} {T : List (List Int)} (h : TabG p L st n T) {k : Nat} (hk : k < n) : (rat T k).length = 20 + L.length := by
  obtain ⟨_, ps, h1, rfl⟩ := h
  rw [fS_row_len _ _ _ _ (by rw [fillH_len, shns_len]; exact Nat.le_refl _), fillH_row_len (by rw [shns_len]; exact hk), shns_rat _ _ _ hk, shn_len]
end Go.Proofs.YtfppkjpgihnibaaGreat

namespace Go.Proofs.YtfppkjpgihnibaaGreat
open Go.RowKit Go.Maps

section
variable {p : Nat} {L : List InsZ} {st : List (List Int)} {n : Nat} {cs : List (Int × Int)}
theorem shn_cell (hst : ∀ s, s ∈ st → StB p L.length s) (h0 : 0 < st.length) (i : Nat) {k : Nat} (hk : k < 3) : zat (shn p L st i) (3 + k) = zat (stI st i) (4 + k) := by
  have f := shn_at hst h0 i
  have : k = 0 ∨ k = 1 ∨ k = 2 := by omega
  rcases this with rfl | rfl | rfl
  · rw [f, if_neg (by omega), if_neg (by omega), if_neg (by omega), if_neg (by omega), if_neg (by omega), if_neg (by omega), if_neg (by omega), if_pos rfl]
  · rw [f, if_neg (by omega), if_neg (by omega), if_neg (by omega), if_neg (by omega), if_neg (by omega), if_neg (by omega), if_pos rfl]
  · rw [f, if_neg (by omega), if_neg (by omega), if_neg (by omega), if_neg (by omega), if_neg (by omega), if_pos rfl]
theorem stb_bd {s : List Int} (h : StB p L.length s) {j : Nat} (hj : j < 10) : zat s j % (p : Int) = zat s j := Int.emod_eq_of_lt (h.2.1 j hj).1 (h.2.1 j hj).2
/-- what stands at a place, holes being 0 -/
noncomputable def cvh (p : Nat) (L : List InsZ) (st : List (List Int)) (n : Nat) (cs : List (Int × Int)) (y : Int) : Int := @ite _ (y ∈ allc (shns p L st n)) (Classical.propDecidable _) (cvl cs y) 0
theorem cvh_in {y : Int} (h : y ∈ allc (shns p L st n)) : cvh p L st n cs y = cvl cs y := by unfold cvh; rw [if_pos h]
theorem cvh_out {y : Int} (h : ¬ y ∈ allc (shns p L st n)) : cvh p L st n cs y = 0 := by unfold cvh; rw [if_neg h]
theorem cvh_zero (hz : Zer cs) : cvh p L st n cs 0 = 0 := by
  by_cases h : (0 : Int) ∈ allc (shns p L st n)
  · rw [cvh_in h]; exact hz.2
  · exact cvh_out h
theorem zat_memZ {l : List Int} {i : Nat} (h : i < l.length) : zat l i ∈ l := by
  have : zat l i = l[i] := by simp [zat, h]
  rw [this]; exact List.getElem_mem h

/-- all pairs of a table: a function; below each all; from 0 on -/
theorem pairs_ok (h3 : 3 ≤ p) (hst : ∀ s, s ∈ st → StB p L.length s) (h0 : 0 < st.length) (hn : 0 < n) (hz : Zer cs) (htl : ∀ s, s ∈ st → Tld3 cs s) (hlen : (tho p L st n).length ≤ n) {ps : List (Int × Int)} (hsrt : SrtOf p (fillH (shns p L st n) (tho p L st n)) ps) :
    (∀ x, x ∈ ps → x.2 = cvh p L st n cs x.1) ∧ (∀ x, x ∈ ps → ∀ y, 0 ≤ y → y < x.1 → ∃ z, z ∈ ps ∧ z.1 = y) ∧ (∀ x, x ∈ ps → 0 ≤ x.1) ∧ (∀ x, x ∈ ps → red p x = x) := by
  obtain ⟨t, ht⟩ := topOk_ex (allc (shns p L st n))
  have hho := tho_filter h3 hst h0 hn ht
  have hfl : (fillH (shns p L st n) (tho p L st n)).length = n := by rw [fillH_len, shns_len]
  have hmem : ∀ x, x ∈ ps ↔ ∃ i, i < n ∧ ∃ k, k < 4 ∧ x = red p (zat (rat (fillH (shns p L st n) (tho p L st n)) i) (3 + k), zat (rat (fillH (shns p L st n) (tho p L st n)) i) (7 + k)) := fun x => by
    rw [hsrt.1.mem_iff, pr4_mem, hfl]
  have hstep : ∀ i k, i < n → k < 3 → (zat (stI st i) (4 + k), zat (stI st i) (7 + k)) ∈ ps := fun i k hi hk => by
    refine (hmem _).2 ⟨i, hi, k, by omega, ?_⟩
    rcases fil_pair hst h0 hi (tho p L st n) (show k < 4 by omega) with ⟨_, e1, e2⟩ | ⟨e, _⟩
    · rw [e1, e2]
      unfold red
      have hb := hst _ (stI_mem h0 i)
      rw [stb_bd hb (by omega), stb_bd hb (by omega)]
    · omega
  have hhole : ∀ i, i < (tho p L st n).length → (zat (tho p L st n) i, (0 : Int)) ∈ ps := fun i hi => by
    refine (hmem _).2 ⟨i, by omega, 3, by omega, ?_⟩
    rcases fil_pair hst h0 (show i < n by omega) (tho p L st n) (show 3 < 4 by omega) with ⟨e, _⟩ | ⟨_, e1, e2⟩
    · omega
    · rw [e1, e2, if_pos hi]
      unfold red
      have hb := tho_bd h3 hst h0 (zat_memZ hi)
      rw [Int.emod_eq_of_lt hb.1 hb.2, Int.zero_emod]
  have hcell : ∀ i k, i < n → k < 3 → zat (stI st i) (4 + k) ∈ allc (shns p L st n) := fun i k hi hk => allc_mem.2 ⟨i, hi, k, hk, (shn_cell hst h0 i hk).symm⟩
  have hkind : ∀ x, x ∈ ps → (∃ i k, i < n ∧ k < 3 ∧ x = (zat (stI st i) (4 + k), zat (stI st i) (7 + k))) ∨ (∃ i, i < (tho p L st n).length ∧ x = (zat (tho p L st n) i, 0)) ∨ x = (0, 0) := fun x hx => by
    obtain ⟨i, hi, k, hk, rfl⟩ := (hmem x).1 hx
    rcases fil_pair hst h0 hi (tho p L st n) hk with ⟨hk3, e1, e2⟩ | ⟨rfl, e1, e2⟩
    · refine .inl ⟨i, k, hi, hk3, ?_⟩
      rw [e1, e2]
      unfold red
      have hb := hst _ (stI_mem h0 i)
      rw [stb_bd hb (by omega), stb_bd hb (by omega)]
    · rw [e1, e2]
      by_cases hil : i < (tho p L st n).length
      · refine .inr (.inl ⟨i, hil, ?_⟩)
        rw [if_pos hil]
        unfold red
        have hb := tho_bd h3 hst h0 (zat_memZ hil)
        rw [Int.emod_eq_of_lt hb.1 hb.2, Int.zero_emod]
      · rw [if_neg hil]
        exact .inr (.inr (by unfold red; rw [Int.zero_emod]))
  have hholeX : ∀ y, y ∈ tho p L st n ↔ (0 ≤ y ∧ y < t) ∧ ¬ y ∈ allc (shns p L st n) := fun y => by
    rw [hho, List.mem_filter, gap_mem]
    simp
  refine ⟨fun x hx => ?_, fun x hx y hy0 hy => ?_, fun x hx => ?_, fun x hx => ?_⟩
  · rcases hkind x hx with ⟨i, k, hi, hk, rfl⟩ | ⟨i, hi, rfl⟩ | rfl
    · rw [cvh_in (hcell i k hi hk)]
      have := (htl _ (stI_mem h0 i) k hk).2
      rw [List.getD_eq_getElem?_getD, List.getD_eq_getElem?_getD] at this
      exact this.symm
    · exact (cvh_out ((hholeX _).1 (zat_memZ hi)).2).symm
    · exact (cvh_zero hz).symm
  · have hyt : y < t := by
      rcases hkind x hx with ⟨i, k, hi, hk, rfl⟩ | ⟨i, hi, rfl⟩ | rfl
      · have := ht.2.1 _ (hcell i k hi hk)
        exact Int.lt_of_lt_of_le hy this
      · have := ((hholeX _).1 (zat_memZ hi)).1.2
        exact Int.lt_trans hy this
      · exact absurd hy (by show ¬ y < 0; omega)
    by_cases hin : y ∈ allc (shns p L st n)
    · obtain ⟨i, hi, k, hk, e⟩ := allc_mem.1 hin
      exact ⟨_, hstep i k hi hk, by rw [e, shn_cell hst h0 i hk]⟩
    · have := (hholeX y).2 ⟨⟨hy0, hyt⟩, hin⟩
      obtain ⟨i, hi, e⟩ := List.getElem_of_mem this
      refine ⟨_, hhole i hi, ?_⟩
      show zat (tho p L st n) i = y
      rw [← e]
      simp [zat, hi]
  · obtain ⟨i, _, k, _, rfl⟩ := (hmem x).1 hx
    exact (emod_bounds _ p h3).1
  · obtain ⟨i, _, k, _, rfl⟩ := (hmem x).1 hx
    unfold red
    rw [Int.emod_emod_of_dvd _ (Int.dvd_refl _), Int.emod_emod_of_dvd _ (Int.dvd_refl _)]
end

theorem twenty_six {j : Nat} (h : j < 26) : j = 0 ∨ j = 1 ∨ j = 2 ∨ j = 3 ∨ j = 4 ∨ j = 5 ∨ j = 6 ∨ j = 7 ∨ j = 8 ∨ j = 9 ∨ j = 10 ∨ j = 11 ∨ j = 12 ∨ j = 13 ∨ j = 14 ∨ j = 15 ∨ j = 16 ∨ j = 17 ∨ j = 18 ∨ j = 19 ∨ j = 20 ∨ j = 21 ∨ j = 22 ∨ j = 23 ∨ j = 24 ∨ j = 25 := by omega

theorem shows_plain {p n : Nat} {size : Int} {L : List InsZ} {st T : List (List Int)} {cs : List (Int × Int)} (hp : Num.Prime p) (h3 : 3 ≤ p) (hn : 0 < n) (hw : mwalk p size L (n - 1) = .good st cs) (hT : TabG p L st n T) :
    (∀ i, i < n → ∀ k, k < L.length + 26 → brkn p L size (outS st) T i k = false) ∧ alkB p T = true := by
  have hrun := mwalk_run h3 hw
  obtain ⟨hz, _, hon⟩ := mwalk_once h3 hw
  obtain ⟨hst, h0⟩ := mwalk_steps h3 hw
  have hTl := hT.len
  have hTr := fun k (hk : k < n) => hT.row hk
  obtain ⟨hlen, ps, hsrt, hTe⟩ := hT
  obtain ⟨pf, pd, pn, pr⟩ := pairs_ok h3 hst h0 hn hz (fun s hs => (hon s hs).1) hlen hsrt
  have hpl : ps.length = 4 * n := by rw [hsrt.len, fillH_len, shns_len]
  have hle : st.length ≤ n := by have := hrun.len.2; omega
  have hrow : ∀ i, i < n → TRow p L (stI st i) (rat T i) := fun i hi => tab_row hst h0 hTe hi
  have hsf : ∀ i, StpF p L (stI st i) := fun i => hrun.fs _ (by omega)
  have hb : ∀ i k, i < n → k < 4 → zat (rat T i) (12 + k) = (cat ps (4 * i + k)).1 := fun i k hi hk => by
    rw [tab_at hTe hi, if_pos (by omega), Nat.add_sub_cancel_left]
  have hwv : ∀ i k, i < n → k < 4 → zat (rat T i) (16 + k) = (cat ps (4 * i + k)).2 := fun i k hi hk => by
    rw [tab_at hTe hi, if_neg (by omega), if_pos (by omega), Nat.add_sub_cancel_left]
  have hor : ∀ i k, i < n → k < 3 → ord1 p (zat (rat T i) (12 + k)) (zat (rat T i) (12 + (k + 1))) = 0 ∧ ord2 p (zat (rat T i) (12 + k)) (zat (rat T i) (16 + k)) (zat (rat T i) (12 + (k + 1))) (zat (rat T i) (16 + (k + 1))) = 0 := fun i k hi hk => by
    rw [hb i k hi (by omega), hb i (k + 1) hi (by omega), hwv i k hi (by omega), hwv i (k + 1) hi (by omega)]
    exact ord_zero p (ord_next hsrt.2 pf pd pn (show 4 * i + k + 1 < ps.length by omega))
  have hor2 : ∀ i, i + 1 < n → ord1 p (zat (rat T i) 15) (zat (rat T (i + 1)) 12) = 0 ∧ ord2 p (zat (rat T i) 15) (zat (rat T i) 19) (zat (rat T (i + 1)) 12) (zat (rat T (i + 1)) 16) = 0 := fun i hi => by
    rw [hb i 3 (by omega) (by omega), hb (i + 1) 0 hi (by omega), hwv i 3 (by omega) (by omega), hwv (i + 1) 0 hi (by omega)]
    have e : 4 * (i + 1) + 0 = 4 * i + 3 + 1 := by omega
    rw [e]
    exact ord_zero p (ord_next hsrt.2 pf pd pn (show 4 * i + 3 + 1 < ps.length by omega))
  have hnext : ∀ i, i + 1 < n → (Nxt p L (stI st i) (rgs (stI st (i + 1))) ∧ (sin' L (stI st i)).op ≠ 0) ∨ (stI st (i + 1) = stI st i ∧ (sin' L (stI st i)).op = 0) := fun i hi => by
    by_cases e : i + 1 < st.length
    · have := hrun.nx i e
      have e1 : stI st i = rat st i := by unfold stI; rw [Nat.min_eq_left (by omega)]
      have e2 : stI st (i + 1) = rat st (i + 1) := by unfold stI; rw [Nat.min_eq_left (by omega)]
      rw [e1, e2]
      exact .inl this
    · have e1 : stI st i = rat st (st.length - 1) := by unfold stI; rw [Nat.min_eq_right (by omega)]
      have e2 : stI st (i + 1) = rat st (st.length - 1) := by unfold stI; rw [Nat.min_eq_right (by omega)]
      rw [e1, e2]
      exact .inr ⟨rfl, hrun.hlt⟩
  have zz : ∀ x : Int, (x - x) % (p : Int) = 0 := fun x => by rw [Int.sub_self, Int.zero_emod]
  refine ⟨fun i hi k hk => ?_, ?_⟩
  · have hr := hrow i hi
    have hs := hsf i
    have hbd := hs.bd
    have key : spk L.length T.length i k = true → rvl p L size (outS st) T i k = 0 := fun hsp => by
      unfold rvl
      by_cases hkl : k < L.length
      · rw [rls_low _ _ _ _ _ _ hkl]
        unfold chz
        rw [hr.es k hkl]
        split
        · rw [Int.sub_self, Int.mul_zero, Int.zero_emod]
        · rw [Int.zero_mul, Int.zero_emod]
      · obtain ⟨j, rfl⟩ : ∃ j, k = L.length + j := ⟨k - L.length, by omega⟩
        rw [rls_high]
        have hsm := fun f => smt_one (f := f) hr hbd
        have hj12 : 12 ≤ j → j < 18 → i + 1 < n := fun h1 h2 => by
          unfold spk at hsp
          rw [if_neg (by omega), if_pos (by omega)] at hsp
          have := of_decide_eq_true hsp
          omega
        have hj18 : 18 ≤ j → j < 24 → i = 0 := fun h1 h2 => by
          unfold spk at hsp
          rw [if_neg (by omega), if_neg (by omega), if_pos (by omega)] at hsp
          exact of_decide_eq_true hsp
        have hj24 : 24 ≤ j → i = n - 1 := fun h1 => by
          unfold spk at hsp
          rw [if_neg (by omega), if_neg (by omega), if_neg (by omega)] at hsp
          have := of_decide_eq_true hsp
          omega
        have hnr : 12 ≤ j → j < 18 → rat T (min (i + 1) (T.length - 1)) = rat T (i + 1) := fun h1 h2 => by
          have := hj12 h1 h2
          rw [Nat.min_eq_left (by omega)]
        have hcell : ∀ m, m < 3 → zat (stI st i) (4 + m) = tvC p (rat T i) m (sin' L (stI st i)) := fun m hm => by
          unfold tvC
          rw [hr.e0, hr.e1]
          exact hs.at3 m hm
        rcases twenty_six (show j < 26 by omega) with rfl | rfl | rfl | rfl | rfl | rfl | rfl | rfl | rfl | rfl | rfl | rfl | rfl | rfl | rfl | rfl | rfl | rfl | rfl | rfl | rfl | rfl | rfl | rfl | rfl | rfl
        · show (smt p L (rat T i) (fun _ _ => 1) - 1) % (p : Int) = 0
          rw [hsm, em_sub1]; exact zz 1
        · show (zat (rat T i) 3 - smt p L (rat T i) (fun _ => tvC p (rat T i) 0)) % (p : Int) = 0
          rw [hsm, em_sub2, hr.e3, ← hcell 0 (by omega)]; exact zz _
        · show (zat (rat T i) 4 - smt p L (rat T i) (fun _ => tvC p (rat T i) 1)) % (p : Int) = 0
          rw [hsm, em_sub2, hr.e4, ← hcell 1 (by omega)]; exact zz _
        · show (zat (rat T i) 5 - smt p L (rat T i) (fun _ => tvC p (rat T i) 2)) % (p : Int) = 0
          rw [hsm, em_sub2, hr.e5, ← hcell 2 (by omega)]; exact zz _
        · show smt p L (rat T i) (fun _ => tvW p (rat T i)) = 0
          rw [hsm]; exact tvW_zero hp h3 hr hs
        · show smt p L (rat T i) (tvM p (rat T i)) = 0
          rw [hsm]; exact tvM_zero hp h3 hr hs
        · exact (hor i 0 hi (by omega)).1
        · exact (hor i 0 hi (by omega)).2
        · exact (hor i 1 hi (by omega)).1
        · exact (hor i 1 hi (by omega)).2
        · exact (hor i 2 hi (by omega)).1
        · exact (hor i 2 hi (by omega)).2
        · have hi1 := hj12 (by omega) (by omega)
          rw [hnr (by omega) (by omega)]
          show (smt p L (rat T (i + 1)) (fun k _ => (k : Int)) - smt p L (rat T i) (tvN p (rat T i))) % (p : Int) = 0
          have hb2 := (hsf (i + 1)).bd
          have hpc2 := (hb2.2.1 0 (by omega)).1
          rw [hsm, smt_one (hrow (i + 1) hi1) hb2, em_sub1, em_sub2]
          show (((zat (stI st (i + 1)) 0).toNat : Int) - _) % (p : Int) = 0
          rw [Int.toNat_of_nonneg hpc2]
          rcases hnext i hi1 with ⟨hnx, hop⟩ | ⟨e, hop⟩
          · exact tvN_next hp h3 hr hs hnx hop
          · rw [e]
            unfold tvN
            rw [if_pos hop, Int.toNat_of_nonneg (hbd.2.1 0 (by omega)).1]
            exact zz _
        · have hi1 := hj12 (by omega) (by omega)
          rw [hnr (by omega) (by omega)]
          show (zat (rat T (i + 1)) 0 - smt p L (rat T i) (fun _ => tvF p (rat T i))) % (p : Int) = 0
          rw [hsm, em_sub2, (hrow (i + 1) hi1).e0]
          rcases hnext i hi1 with ⟨hnx, hop⟩ | ⟨e, hop⟩
          · exact tvF_next hr hnx
          · rw [e]
            unfold tvF
            rw [if_neg (by omega), if_neg (by omega), hr.e0]
            exact zz _
        · have hi1 := hj12 (by omega) (by omega)
          rw [hnr (by omega) (by omega)]
          show (zat (rat T (i + 1)) 1 - smt p L (rat T i) (fun _ => tvA p (rat T i))) % (p : Int) = 0
          rw [hsm, em_sub2, (hrow (i + 1) hi1).e1]
          rcases hnext i hi1 with ⟨hnx, hop⟩ | ⟨e, hop⟩
          · exact tvA_next hr hnx
          · rw [e]
            unfold tvA
            rw [if_neg (by omega), hr.e1]
            exact zz _
        · have hi1 := hj12 (by omega) (by omega)
          rw [hnr (by omega) (by omega)]
          show (zat (rat T (i + 1)) 2 - smt p L (rat T i) (fun _ => tvR (rat T i))) % (p : Int) = 0
          rw [hsm, em_sub2, (hrow (i + 1) hi1).e2]
          rcases hnext i hi1 with ⟨hnx, hop⟩ | ⟨e, hop⟩
          · exact tvR_next hr hnx
          · rw [e]
            unfold tvR
            rw [if_neg (by omega), hr.e2]
            exact zz _
        · rw [hnr (by omega) (by omega)]
          exact (hor2 i (hj12 (by omega) (by omega))).1
        · rw [hnr (by omega) (by omega)]
          exact (hor2 i (hj12 (by omega) (by omega))).2
        · have hi0 := hj18 (by omega) (by omega)
          subst hi0
          have e0 : stI st 0 = rat st 0 := by unfold stI; rw [Nat.zero_min]
          have hf1 := hrun.f1
          rw [← e0] at hf1
          have r0 : zat (stI st 0) 0 = 0 := congrArg Rg.pc hf1
          have hL0 : 0 < L.length := Nat.lt_of_le_of_lt (Nat.zero_le _) (pc_lt hbd)
          have hes : zat (rat T 0) 20 = if 0 = (zat (stI st 0) 0).toNat then 1 else 0 := hr.es 0 hL0
          show (zat (rat T 0) 20 - 1) % (p : Int) = 0
          rw [hes, r0, if_pos (show 0 = (0 : Int).toNat from rfl)]
          exact zz 1
        all_goals first
          | (have hi0 := hj18 (by omega) (by omega)
             subst hi0
             have e0 : stI st 0 = rat st 0 := by unfold stI; rw [Nat.zero_min]
             have hf1 := hrun.f1
             rw [← e0] at hf1
             have r1 : zat (stI st 0) 1 = 1 := congrArg Rg.fp hf1
             have r2 : zat (stI st 0) 2 = (1 + size) % (p : Int) := congrArg Rg.ap hf1
             have r3 : zat (stI st 0) 3 = 0 := congrArg Rg.rv hf1
             have hc0 := ord_first hsrt.2 pd pn (show 0 < ps.length by omega)
             have hc1 : (cat ps 0).2 = 0 := by rw [pf _ (cat_memZ (show 0 < ps.length by omega)), hc0]; exact cvh_zero hz
             first
               | (show (zat (rat T 0) 0 - 1) % (p : Int) = 0
                  rw [hr.e0, r1]; exact zz 1)
               | (show (zat (rat T 0) 1 - 1 - size) % (p : Int) = 0
                  rw [hr.e1, r2, show (1 + size) % (p : Int) - 1 - size = (1 + size) % (p : Int) - (1 + size) by omega, em_sub1]; exact zz _)
               | (show zat (rat T 0) 2 % (p : Int) = 0
                  rw [hr.e2, r3, Int.zero_emod])
               | (show zat (rat T 0) 12 % (p : Int) = 0
                  rw [hb 0 0 hi (by omega), show 4 * 0 + 0 = 0 from rfl, hc0, Int.zero_emod])
               | (show zat (rat T 0) 16 % (p : Int) = 0
                  rw [hwv 0 0 hi (by omega), show 4 * 0 + 0 = 0 from rfl, hc1, Int.zero_emod]))
          | (have hil := hj24 (by omega)
             have e0 : stI st i = rat st (st.length - 1) := by unfold stI; rw [Nat.min_eq_right (by omega)]
             have hop := hrun.hlt
             rw [← e0] at hop
             first
               | (show (smt p L (rat T i) (fun _ => tvH) - 1) % (p : Int) = 0
                  rw [hsm, em_sub1]
                  unfold tvH
                  rw [if_pos hop]
                  exact zz 1)
               | (show (zat (rat T i) 7 - outS st) % (p : Int) = 0
                  rw [hr.e7, e0]
                  exact zz _))
    unfold brkn
    by_cases hsp : spk L.length T.length i k = true
    · rw [key hsp]; simp
    · rw [Bool.not_eq_true] at hsp
      rw [hsp, Bool.and_false]
  · unfold alkB
    rw [geB_yes (fun k hk => by rw [hTl] at hk; rw [hTr k hk]; omega), Bool.true_and]
    have hfl : (fillH (shns p L st n) (tho p L st n)).length = n := by rw [fillH_len, shns_len]
    have e1 : pr4 p T 3 7 = pr4 p (fillH (shns p L st n) (tho p L st n)) 3 7 := by
      apply cats_ext
      · rw [pr4_len, pr4_len, hTl, hfl]
      · intro j hj
        rw [pr4_len, hTl] at hj
        rw [show j = 4 * (j / 4) + j % 4 by omega, pr4_cat p 3 7 (Nat.mod_lt _ (by decide)) T (j / 4) (by omega), pr4_cat p 3 7 (Nat.mod_lt _ (by decide)) _ (j / 4) (by omega)]
        rw [tab_at hTe (show j / 4 < n by omega), if_neg (by omega), if_neg (by omega), tab_at hTe (show j / 4 < n by omega), if_neg (by omega), if_neg (by omega)]
    have e2 : pr4 p T 12 16 = ps := by
      apply cats_ext
      · rw [pr4_len, hTl, hpl]
      · intro j hj
        rw [pr4_len, hTl] at hj
        rw [show j = 4 * (j / 4) + j % 4 by omega, pr4_cat p 12 16 (Nat.mod_lt _ (by decide)) T (j / 4) (by omega), hb (j / 4) (j % 4) (by omega) (Nat.mod_lt _ (by decide)), hwv (j / 4) (j % 4) (by omega) (Nat.mod_lt _ (by decide))]
        exact pr _ (cat_memZ (show 4 * (j / 4) + j % 4 < ps.length by omega))
    rw [e1, e2]
    exact decide_eq_true hsrt.1.symm

end Go.Proofs.YtfppkjpgihnibaaGreat

namespace Go.Proofs.YtfppkjpgihnibaaGreat
open Go.RowKit Go.Maps

/-- the example's code, its steps, its rows, their pairs sorted, the table -/
def xtL : List InsZ := [⟨5, 0, 5, 0⟩, ⟨0, 0, 0, 0⟩]
def xtS : List (List Int) := [[0, 1, 2, 0, 1, 0, 0, 5, 0, 0], [1, 1, 2, 0, 1, 0, 0, 5, 0, 0]]
def xtR : List (List Int) := [[1, 2, 0, 1, 0, 0, 0, 5, 0, 0, 0, 0, 0, 0, 0, 0, 0, 0, 0, 0, 1, 0], [1, 2, 0, 1, 0, 0, 0, 5, 0, 0, 0, 0, 0, 0, 0, 0, 0, 0, 0, 0, 0, 1]]
def xtP : List (Int × Int) := [(0, 0), (0, 0), (0, 0), (0, 0), (0, 0), (0, 0), (1, 5), (1, 5)]
def xtT0 : List Int := [1, 2, 0, 1, 0, 0, 0, 5, 0, 0, 0, 0, 0, 0, 0, 0, 0, 0, 0, 0, 1, 0]
def xtT1 : List Int := [1, 2, 0, 1, 0, 0, 0, 5, 0, 0, 0, 0, 0, 0, 1, 1, 0, 0, 5, 5, 0, 1]
theorem xt_walk : ∃ cs, mwalk 97 1 xtL 1 = .good xtS cs := ⟨_, rfl⟩
theorem xt_bounds : InsB xtL := fun k hk => by
  have : k = 0 ∨ k = 1 := by simp [xtL] at hk; omega
  rcases this with rfl | rfl <;> decide
theorem xt_stb : ∀ s, s ∈ xtS → StB 97 xtL.length s := by
  intro s hs
  simp only [xtS, List.mem_cons, List.not_mem_nil, or_false] at hs
  rcases hs with rfl | rfl
  · refine ⟨rfl, fun j hj => ?_, by decide⟩
    have : j = 0 ∨ j = 1 ∨ j = 2 ∨ j = 3 ∨ j = 4 ∨ j = 5 ∨ j = 6 ∨ j = 7 ∨ j = 8 ∨ j = 9 := by omega
    rcases this with rfl | rfl | rfl | rfl | rfl | rfl | rfl | rfl | rfl | rfl <;> decide
  · refine ⟨rfl, fun j hj => ?_, by decide⟩
    have : j = 0 ∨ j = 1 ∨ j = 2 ∨ j = 3 ∨ j = 4 ∨ j = 5 ∨ j = 6 ∨ j = 7 ∨ j = 8 ∨ j = 9 := by omega
    rcases this with rfl | rfl | rfl | rfl | rfl | rfl | rfl | rfl | rfl | rfl <;> decide
theorem xt_shns : shns 97 xtL xtS 2 = xtR := by decide
theorem xt_tho : tho 97 xtL xtS 2 = [] := by
  rw [tho_filter (p := 97) (t := 1) (by decide) xt_stb (by decide) (by decide) ⟨by decide, by rw [xt_shns]; decide, .inr (by rw [xt_shns]; decide)⟩, xt_shns]
  decide
theorem xt_fill : fillH (shns 97 xtL xtS 2) (tho 97 xtL xtS 2) = xtR := by rw [xt_tho, xt_shns]; decide
theorem xt_tab : TabG 97 xtL xtS 2 [xtT0, xtT1] := by
  refine ⟨by rw [xt_tho]; decide, xtP, ?_, ?_⟩
  · rw [xt_fill]
    refine ⟨by decide, ?_⟩
    decide
  · rw [xt_fill]; decide

set_option maxHeartbeats 1000000 in
theorem plain7_yes (q : Nat) (w : World) (h3 : 3 ≤ q) (h4 : q ≤ 2147483647) (hpr : Num.Prime q) :
    Calls Tryz.prog 5 #[.int .i64 q] w fun e w' => e = .returned (.pointer (some ⟨w.heap.size, 0, none⟩)) ∧ w'.cell? ⟨w.heap.size, 0, none⟩ = some (.int .i64 q) ∧ Below w.heap.size w w' := by
  have HF := hid (new_yes q w h3 h4 hpr)
  clear hpr
  go_enter Tryz.func5, Tryz.ntmps5
  go_wp2_with fail
  refine HF.out.mono ?_
  rintro e w1 ⟨rfl, hc1, hb1, hlt1⟩
  have HE : Hid (w1.cell? ⟨w.heap.size, 0, none⟩ = some (.int .i64 q) ∧ Below w.heap.size w w1) := ⟨hc1, hb1⟩
  clear hc1 hb1 HF
  go_wp2_with fail
  go_ret
  exact ⟨rfl, HE.out⟩
set_option maxHeartbeats 1000000 in
theorem plain7_no (p : Int) (w : World) (hno : ¬ okPrime p) (hp1 : -9223372036854775808 ≤ p) (hp2 : p ≤ 9223372036854775807) :
    Calls Tryz.prog 5 #[.int .i64 p] w fun e w' => e = .returned (.pointer none) ∧ w' = w := by
  have HF := hid (new_no p w hno hp1 hp2)
  clear hno hp1 hp2
  go_enter Tryz.func5, Tryz.ntmps5
  go_wp2_with fail
  refine HF.out.mono ?_
  rintro e w1 ⟨rfl, rfl⟩
  go_wp2_with fail
  go_ret
  exact ⟨rfl, rfl⟩

/-- a row of numbers in a block -/
theorem rowB_of_block {w : World} {g : Nat} {zs : List Int} {t : TypeId} {r : Nat × Nat} (h : w.heap[g]? = some (.cells (zs.map (Value.int .i64)).toArray t r)) : RowB w.heap.size w (some ⟨g, 0, none⟩) zs := fun k hk => by
  refine ⟨g, 0, rfl, (Array.getElem?_eq_some_iff.1 h).1, ?_⟩
  simp [World.cell?, h, hk, zat]

set_option maxRecDepth 100000 in
set_option maxHeartbeats 4000000 in
theorem lives7_any (w : World) : Calls Tryz.prog 4 #[] w fun e w' => e = .returned (.bool true) ∧ Below w.heap.size w w' := by
  have HF := hid (plain7_yes 97 w (by decide) (by decide) prime97M)
  go_enter Tryz.func4, Tryz.ntmps4
  go_wp2_with fail
  refine HF.out.mono ?_
  rintro e w1 ⟨rfl, hc1, hb1⟩
  have HB1 := hid hb1
  clear hb1 HF
  go_wp2_with fail
  obtain ⟨V, hV⟩ : ∃ V, V = w1.alloc (.cells #[.int .i64 5, .int .i64 0, .int .i64 5, .int .i64 0, .int .i64 0, .int .i64 0, .int .i64 0, .int .i64 0] 44) := ⟨_, rfl⟩
  obtain ⟨W2, hW2⟩ : ∃ W2, W2 = V.alloc (.cells #[.int .i64 1, .slice (some ⟨w1.heap.size, 0, none⟩) 2 2] 24) := ⟨_, rfl⟩
  have b1 : Below w1.heap.size w1 V := by rw [hV]; exact (Below.refl _ _).alloc (Nat.le_refl _) _
  have b2 : Below V.heap.size V W2 := by rw [hW2]; exact (Below.refl _ _).alloc (Nat.le_refl _) _
  have hs : V.heap.size = w1.heap.size + 1 := by rw [hV]; simp
  have hs2 : W2.heap.size = V.heap.size + 1 := by rw [hW2]; simp
  have b12 := b1.trans (b2.mono b1.size)
  have hrow : W2.heap[w1.heap.size]? = some (.cells #[.int .i64 5, .int .i64 0, .int .i64 5, .int .i64 0, .int .i64 0, .int .i64 0, .int .i64 0, .int .i64 0] 44 (0, 0)) := (b2.block _ (by omega)).trans (by rw [hV]; exact heap_alloc_new w1 _)
  have HLI : Hid (LstI W2.heap.size W2 (some ⟨w1.heap.size, 0, none⟩) 2 xtL) := by
    refine ⟨fun k hk => ⟨w1.heap.size, 0, rfl, by omega, ?_⟩, Nat.le_refl _, fun h => by cases h⟩
    have : k = 0 ∨ k = 1 := by simp [xtL] at hk; omega
    rcases this with rfl | rfl <;> simp [World.cell?, hrow, insat, xtL]
  have HRN := hid (ptable_any 97 w.heap.size 1 2 (some ⟨w1.heap.size, 0, none⟩) 2 xtL W2 (by decide) (by decide) prime97M ((b12.cell (p := ⟨w.heap.size, 0, none⟩) (World.block_lt_of_cell? _ _ hc1)).trans hc1) (by decide) HLI.out xt_bounds)
  have HB2 := hid (HB1.out.trans (b12.mono HB1.out.size))
  rw [← hV, ← hW2]
  clear hV hW2 b1 b2 hs hs2 b12 hrow HLI HB1 hc1
  refine HRN.out.mono ?_
  rintro e w3 ⟨hb3, hr3⟩
  obtain ⟨cs, hX⟩ := xt_walk
  have hf0 : ¬ fz6 ((97 : Nat) : Int) 1 xtL.length (2 - 1) ≠ 0 := by decide
  rw [if_neg (by decide), if_neg hf0, show (2 - 1 : Int).toNat = 1 from rfl, hX] at hr3
  have hth : ¬ (2 : Int).toNat < (tho 97 xtL xtS (2 : Int).toNat).length := by rw [show (2 : Int).toNat = 2 from rfl, xt_tho]; decide
  simp only [if_neg hth] at hr3
  obtain ⟨T, G, K, hT, rfl, hTb⟩ := hr3
  obtain rfl : T = [xtT0, xtT1] := hT.one xt_tab
  have o0 := hTb.out 0 (by decide)
  have o1 := hTb.out 1 (by decide)
  have HW0 := hid ((hTb.row 0 (by decide)).lst (hTb.row 0 (by decide)).lt).row
  have HW1 := hid ((hTb.row 1 (by decide)).lst (hTb.row 1 (by decide)).lt).row
  have HB3 := hid (HB2.out.trans (hb3.mono HB2.out.size))
  have q5 : outS xtS = 5 := by decide
  rw [q5]
  rw [show (rat [xtT0, xtT1] 0).length = 22 from rfl] at o0
  rw [show (rat [xtT0, xtT1] 1).length = 22 from rfl] at o1
  rw [show rat [xtT0, xtT1] 0 = xtT0 from rfl] at HW0
  rw [show rat [xtT0, xtT1] 1 = xtT1 from rfl] at HW1
  have HGL := hid hTb.lt
  clear hT hTb hf0 hth hX q5 HB2 HRN hb3 cs
  generalize K 0 = K0 at *
  generalize K 1 = K1 at *
  obtain ⟨W4, hW4⟩ : ∃ W4, W4 = w3.alloc (.cells #[.int .i64 1, .int .i64 2, .int .i64 0, .int .i64 1, .int .i64 0, .int .i64 0, .int .i64 0, .int .i64 5, .int .i64 0, .int .i64 0, .int .i64 0, .int .i64 0, .int .i64 0, .int .i64 0, .int .i64 0, .int .i64 0, .int .i64 0, .int .i64 0, .int .i64 0, .int .i64 0, .int .i64 1, .int .i64 0] 3) := ⟨_, rfl⟩
  have hb4 : Below w3.heap.size w3 W4 := by rw [hW4]; exact (Below.refl _ _).alloc (Nat.le_refl _) _
  have HI4 := hid (ints_any xtT0 xtT0 _ _ W4 (rowZ_of_B 22 (RowB.mono hb4.size (RowB.below hb4 HW0.out))) (rowZ_of_B 22 (rowB_of_block (w := W4) (g := w3.heap.size) (zs := xtT0) (t := 3) (r := (0, 0)) (by rw [hW4]; exact heap_alloc_new w3 _))) (by decide) (by decide))
  rw [decide_eq_true rfl, show xtT0.length = 22 from rfl] at HI4
  have HB4 := hid hb4
  clear hb4
  go_wp2_with fail
  rw [← hW4]
  clear hW4 o0
  refine HI4.out.mono ?_
  rintro e w5 ⟨rfl, k5, rfl⟩
  have hb5 : Below w3.heap.size w3 (W4.drewN k5) := below_drewN HB4.out k5
  have HB5 := hid hb5
  have o1' := (hb5.cell (p := ⟨G, 1, none⟩) HGL.out).trans o1
  generalize W4.drewN k5 = w5 at *
  obtain ⟨W6, hW6⟩ : ∃ W6, W6 = w5.alloc (.cells #[.int .i64 1, .int .i64 2, .int .i64 0, .int .i64 1, .int .i64 0, .int .i64 0, .int .i64 0, .int .i64 5, .int .i64 0, .int .i64 0, .int .i64 0, .int .i64 0, .int .i64 0, .int .i64 0, .int .i64 1, .int .i64 1, .int .i64 0, .int .i64 0, .int .i64 5, .int .i64 5, .int .i64 0, .int .i64 1] 3) := ⟨_, rfl⟩
  have hb6 : Below w5.heap.size w5 W6 := by rw [hW6]; exact (Below.refl _ _).alloc (Nat.le_refl _) _
  have hb36 := HB5.out.trans (hb6.mono HB5.out.size)
  have HI6 := hid (ints_any xtT1 xtT1 _ _ W6 (rowZ_of_B 22 (RowB.mono hb36.size (RowB.below hb36 HW1.out))) (rowZ_of_B 22 (rowB_of_block (w := W6) (g := w5.heap.size) (zs := xtT1) (t := 3) (r := (0, 0)) (by rw [hW6]; exact heap_alloc_new w5 _))) (by decide) (by decide))
  rw [decide_eq_true rfl, show xtT1.length = 22 from rfl] at HI6
  have HB6 := hid (HB3.out.trans (hb36.mono HB3.out.size))
  clear hb6 hb36 o1 HB4 HI4 HB5 hb5
  go_wp2_with fail
  rw [← hW6]
  clear hW6 o1'
  refine HI6.out.mono ?_
  rintro e w7 ⟨rfl, k7, rfl⟩
  have HB7 := hid (below_drewN HB6.out k7)
  clear HI6
  go_wp2_with fail
  go_ret
  exact ⟨rfl, HB7.out⟩

end Go.Proofs.YtfppkjpgihnibaaGreat

namespace Go.Proofs.YtfppkjpgihnibaaGreat
open Go.RowKit Go.Maps

/-- what is known of a view's parts -/
structure VF (p : Nat) (L : List InsZ) (size out : Int) (r n : List Int) : Prop where
  h3 : 3 ≤ p
  h4 : p ≤ 2147483647
  hr : r.length = 20 + L.length
  hn : n.length = 20 + L.length
  fr : ∀ j, I64 (zat r j)
  fn : ∀ j, I64 (zat n j)
  hI : InsB L
  hl : L.length ≤ 4398046511104
  h1 : 1 ≤ L.length
  hsz : I64 size
  hout : I64 out
/-- a view in memory -/
structure VW (p b V : Nat) (L : List InsZ) (size out : Int) (r n : List Int) (aL : Option Addr) (cL : Nat) (ar : Option Addr) (cr : Nat) (an : Option Addr) (cn : Nat) (w : World) : Prop where
  blk : w.heap[V]? = some (.cells #[.pointer (some ⟨b, 0, none⟩), .int .i64 size, .slice aL L.length cL, .int .i64 out, .slice ar r.length cr, .slice an n.length cn] 99 (0, 0))
  fld : w.cell? ⟨b, 0, none⟩ = some (.int .i64 p)
  ins : LstI w.heap.size w aL cL L
  row : RowB w.heap.size w ar r
  nxt : RowB w.heap.size w an n
theorem VW.below {p b V : Nat} {L : List InsZ} {size out : Int} {r n : List Int} {aL : Option Addr} {cL : Nat} {ar : Option Addr} {cr : Nat} {an : Option Addr} {cn : Nat} {w w' : World} (h : VW p b V L size out r n aL cL ar cr an cn w) (e : Below w.heap.size w w') : VW p b V L size out r n aL cL ar cr an cn w' :=
  ⟨(e.block V (Array.getElem?_eq_some_iff.1 h.blk).1).trans h.blk, (e.cell (p := ⟨b, 0, none⟩) (World.block_lt_of_cell? _ _ h.fld)).trans h.fld, (h.ins.below e).mono e.size, RowB.mono e.size (RowB.below e h.row), RowB.mono e.size (RowB.below e h.nxt)⟩
theorem VW.cells {p b V : Nat} {L : List InsZ} {size out : Int} {r n : List Int} {aL : Option Addr} {cL : Nat} {ar : Option Addr} {cr : Nat} {an : Option Addr} {cn : Nat} {w : World} (h : VW p b V L size out r n aL cL ar cr an cn w) : w.cell? ⟨V, 0, none⟩ = some (.pointer (some ⟨b, 0, none⟩)) ∧ w.cell? ⟨V, 1, none⟩ = some (.int .i64 size) ∧ w.cell? ⟨V, 2, none⟩ = some (.slice aL L.length cL) ∧ w.cell? ⟨V, 3, none⟩ = some (.int .i64 out) ∧ w.cell? ⟨V, 4, none⟩ = some (.slice ar r.length cr) ∧ w.cell? ⟨V, 5, none⟩ = some (.slice an n.length cn) := by
  refine ⟨?_, ?_, ?_, ?_, ?_, ?_⟩ <;> simp [World.cell?, h.blk]
theorem rowB_at {n0 m : Nat} {w : World} {a : Option Addr} {zs : List Int} (h : RowB n0 w a zs) (hl : zs.length = 20 + m) : ∃ g o, a = some ⟨g, o, none⟩ ∧ ∀ i, i < 20 + m → w.cell? ⟨g, o + i, none⟩ = some (.int .i64 (zat zs i)) := by
  obtain ⟨g, o, h1, _, _⟩ := h 0 (by omega)
  refine ⟨g, o, h1, fun i hi => ?_⟩
  obtain ⟨g', o', h2, _, h4⟩ := h i (by omega)
  rw [h1] at h2
  injection h2 with h2
  injection h2 with h2 h3
  subst h2 h3
  exact h4
theorem VW.rowAt {p b V : Nat} {L : List InsZ} {size out : Int} {r n : List Int} {aL : Option Addr} {cL : Nat} {ar : Option Addr} {cr : Nat} {an : Option Addr} {cn : Nat} {w : World} (h : VW p b V L size out r n aL cL ar cr an cn w) (hl : r.length = 20 + L.length) : ∃ g o, ar = some ⟨g, o, none⟩ ∧ ∀ i, i < 20 + L.length → w.cell? ⟨g, o + i, none⟩ = some (.int .i64 (zat r i)) := rowB_at h.row hl
theorem VW.nxtAt {p b V : Nat} {L : List InsZ} {size out : Int} {r n : List Int} {aL : Option Addr} {cL : Nat} {ar : Option Addr} {cr : Nat} {an : Option Addr} {cn : Nat} {w : World} (h : VW p b V L size out r n aL cL ar cr an cn w) (hl : n.length = 20 + L.length) : ∃ g o, an = some ⟨g, o, none⟩ ∧ ∀ i, i < 20 + L.length → w.cell? ⟨g, o + i, none⟩ = some (.int .i64 (zat n i)) := rowB_at h.nxt hl

set_option maxRecDepth 100000 in
set_option maxHeartbeats 2000000 in
theorem vnotZero_any (p b V : Nat) (L : List InsZ) (size out : Int) (r n : List Int) (aL : Option Addr) (cL : Nat) (ar : Option Addr) (cr : Nat) (an : Option Addr) (cn : Nat) (w : World) (H : VF p L size out r n) (hV : VW p b V L size out r n aL cL ar cr an cn w)  :
    Calls Tryz.prog 112 #[.pointer (some ⟨V, 0, none⟩)] w fun e w' => e = .returned (.int .i64 ((zat r 11 * zat r 7) % (p : Int))) ∧ ∃ m, w' = w.drewN m := by
  have h3 := H.h3
  have h4 := H.h4
  have HEM : Hid (∀ a : Int, I64 (a % (p : Int))) := fun a => by have := emod_bounds a p H.h3; have := H.h4; unfold I64; omega
  obtain ⟨c0, c1, c2, c3, c4, c5⟩ := hV.cells
  have hpc := hV.fld
  have QP : Hid (∀ nn, (w.drewN nn).cell? ⟨b, 0, none⟩ = some (.int .i64 p)) := fun nn => hpc
  obtain ⟨br, orr, har, hrw⟩ := hV.rowAt H.hr
  subst har
  have r7 := hrw 7 (by omega)
  have i7 : I64 (zat r 7) := H.fr 7
  have l7 : (7 : Int) < (r.length : Int) := by have := H.hr; omega
  have r11 := hrw 11 (by omega)
  have i11 : I64 (zat r 11) := H.fr 11
  have l11 : (11 : Int) < (r.length : Int) := by have := H.hr; omega
  clear hrw
  have HC0 : Hid (∀ W : World, W.cell? ⟨b, 0, none⟩ = some (.int .i64 p) → Calls Tryz.prog 85 #[.pointer (some ⟨b, 0, none⟩), .int .i64 (zat r 11), .int .i64 (zat r 7)] W fun e w' => e = .returned (.int .i64 (((zat r 11) * (zat r 7)) % (p : Int))) ∧ w' = W) := fun W h => mul_any p b _ _ W h3 h4 h i11.1 i11.2 i7.1 i7.2
  clear i7 i11
  clear HEM H hV
  generalize (((zat r 11) * (zat r 7)) % (p : Int)) = t1 at *
  generalize zat r 7 = x7 at *
  generalize zat r 11 = x11 at *
  generalize r.length = lr at *
  generalize L.length = nL at *
  go_enter Tryz.func112, Tryz.ntmps112
  go_wp2_with fail
  go_quiet (first
    | (go_at_call 85; first | with_reducible exact Calls.quiet_of_same (HC0.out _ (QP.out _))))
  go_wp2_with fail
  go_ret
  exact ⟨rfl, _, rfl⟩

set_option maxRecDepth 100000 in
set_option maxHeartbeats 2000000 in
theorem vchoice_any (p b V : Nat) (L : List InsZ) (size out : Int) (r n : List Int) (aL : Option Addr) (cL : Nat) (ar : Option Addr) (cr : Nat) (an : Option Addr) (cn : Nat) (w : World) (H : VF p L size out r n) (hV : VW p b V L size out r n aL cL ar cr an cn w) (x : Int) (hx : I64 x)  :
    Calls Tryz.prog 56 #[.pointer (some ⟨V, 0, none⟩), .int .i64 x] w fun e w' => e = .returned (.int .i64 ((x * (x - 1)) % (p : Int))) ∧ ∃ m, w' = w.drewN m := by
  have h3 := H.h3
  have h4 := H.h4
  have HEM : Hid (∀ a : Int, I64 (a % (p : Int))) := fun a => by have := emod_bounds a p H.h3; have := H.h4; unfold I64; omega
  obtain ⟨c0, c1, c2, c3, c4, c5⟩ := hV.cells
  have hpc := hV.fld
  have QP : Hid (∀ nn, (w.drewN nn).cell? ⟨b, 0, none⟩ = some (.int .i64 p)) := fun nn => hpc
  have HE : Hid ((x * (x - 1)) % (p : Int) = ((x * ((x - (1 : Int)) % (p : Int))) % (p : Int))) := by
    unfold Hid
    simp only [em_mul2]
  obtain ⟨R, hR⟩ : ∃ R, R = (x * (x - 1)) % (p : Int) := ⟨_, rfl⟩
  rw [← hR] at HE ⊢
  clear hR
  have HC0 : Hid (∀ W : World, W.cell? ⟨b, 0, none⟩ = some (.int .i64 p) → Calls Tryz.prog 54 #[.pointer (some ⟨b, 0, none⟩), .int .i64 x, .int .i64 (1 : Int)] W fun e w' => e = .returned (.int .i64 ((x - (1 : Int)) % (p : Int))) ∧ w' = W) := fun W h => sub_any p b _ _ W h3 h4 h hx.1 hx.2 (show I64 1 by unfold I64; decide).1 (show I64 1 by unfold I64; decide).2
  have HC1 : Hid (∀ W : World, W.cell? ⟨b, 0, none⟩ = some (.int .i64 p) → Calls Tryz.prog 85 #[.pointer (some ⟨b, 0, none⟩), .int .i64 x, .int .i64 ((x - (1 : Int)) % (p : Int))] W fun e w' => e = .returned (.int .i64 ((x * ((x - (1 : Int)) % (p : Int))) % (p : Int))) ∧ w' = W) := fun W h => mul_any p b _ _ W h3 h4 h hx.1 hx.2 (HEM.out _).1 (HEM.out _).2
  clear HEM H hV
  generalize ((x * ((x - (1 : Int)) % (p : Int))) % (p : Int)) = t2 at *
  generalize ((x - (1 : Int)) % (p : Int)) = t1 at *
  generalize L.length = nL at *
  go_enter Tryz.func56, Tryz.ntmps56
  go_wp2_with fail
  go_quiet (first
    | (go_at_call 54; first | with_reducible exact Calls.quiet_of_same (HC0.out _ (QP.out _)))
    | (go_at_call 85; first | with_reducible exact Calls.quiet_of_same (HC1.out _ (QP.out _))))
  go_wp2_with fail
  go_ret
  exact ⟨by have h := HE.out; subst h; rfl, _, rfl⟩

end Go.Proofs.YtfppkjpgihnibaaGreat

namespace Go.Proofs.YtfppkjpgihnibaaGreat
open Go.RowKit Go.Maps

theorem mcells_all (p b : Nat) (op ia ib ic fp ap : Int) (w : World) (h3 : 3 ≤ p) (h4 : p ≤ 2147483647) (hp : w.cell? ⟨b, 0, none⟩ = some (.int .i64 p)) (hb : I64 ia ∧ I64 ib ∧ I64 ic ∧ I64 fp ∧ I64 ap) :
    Calls Tryz.prog 72 #[.pointer (some ⟨b, 0, none⟩), .agg #[.int .i64 op, .int .i64 ia, .int .i64 ib, .int .i64 ic], .int .i64 fp, .int .i64 ap] w (CeR p op ia ib ic fp ap w) := by
  by_cases g0 : op = 0; · subst g0; exact pcells_0 p b ia ib ic fp ap w h3 h4 hp hb
  by_cases g1 : op = 1; · subst g1; exact pcells_1 p b ia ib ic fp ap w h3 h4 hp hb
  by_cases g2 : op = 2; · subst g2; exact pcells_2 p b ia ib ic fp ap w h3 h4 hp hb
  by_cases g3 : op = 3; · subst g3; exact pcells_3 p b ia ib ic fp ap w h3 h4 hp hb
  by_cases g4 : op = 4; · subst g4; exact pcells_4 p b ia ib ic fp ap w h3 h4 hp hb
  by_cases g5 : op = 5; · subst g5; exact pcells_5 p b ia ib ic fp ap w h3 h4 hp hb
  by_cases g6 : op = 6; · subst g6; exact pcells_6 p b ia ib ic fp ap w h3 h4 hp hb
  by_cases g7 : op = 7; · subst g7; exact pcells_7 p b ia ib ic fp ap w h3 h4 hp hb
  by_cases g8 : op = 8; · subst g8; exact pcells_8 p b ia ib ic fp ap w hp
  by_cases g9 : op = 9; · subst g9; exact pcells_9 p b ia ib ic fp ap w h3 h4 hp hb
  by_cases g10 : op = 10; · subst g10; exact pcells_10 p b ia ib ic fp ap w h3 h4 hp hb
  by_cases g11 : op = 11; · subst g11; exact pcells_11 p b ia ib ic fp ap w h3 h4 hp hb
  by_cases g12 : op = 12; · subst g12; exact pcells_12 p b ia ib ic fp ap w h3 h4 hp hb
  by_cases g13 : op = 13; · subst g13; exact pcells_13 p b ia ib ic fp ap w h3 h4 hp hb
  exact pcells_x p b op ia ib ic fp ap w hp ⟨g0, g1, g2, g3, g4, g5, g6, g7, g9, g10, g11, g12, g13⟩

theorem iy3_0 (x y z : Int) (w : World) : (Instr.index 56 (.agg #[.int .i64 x, .int .i64 y, .int .i64 z]) (.int .i64 0)).run Tryz.prog w = .ok (.int .i64 x) w := by kernel_rfl
theorem iy3_1 (x y z : Int) (w : World) : (Instr.index 56 (.agg #[.int .i64 x, .int .i64 y, .int .i64 z]) (.int .i64 1)).run Tryz.prog w = .ok (.int .i64 y) w := by kernel_rfl
theorem iy3_2 (x y z : Int) (w : World) : (Instr.index 56 (.agg #[.int .i64 x, .int .i64 y, .int .i64 z]) (.int .i64 2)).run Tryz.prog w = .ok (.int .i64 z) w := by kernel_rfl
theorem put3_cell {W : World} {G : Nat} {a b c : Value} {p : Addr} (h : p.block ≠ G) : (((W.setCell ⟨G, 0, none⟩ a).setCell ⟨G, 1, none⟩ b).setCell ⟨G, 2, none⟩ c).cell? p = W.cell? p :=
  World.cell?_of_block (by rw [Below.heap_setCell _ _ _ _ h, Below.heap_setCell _ _ _ _ h, Below.heap_setCell _ _ _ _ h])
theorem hrw0 {p b V : Nat} {L : List InsZ} {size out : Int} {r n : List Int} {aL : Option Addr} {cL g o : Nat} {cr : Nat} {an : Option Addr} {cn : Nat} {w : World} (h : VW p b V L size out r n aL cL (some ⟨g, o, none⟩) cr an cn w) (hl : r.length = 20 + L.length) : w.cell? ⟨g, o, none⟩ = some (.int .i64 (zat r 0)) := by
  obtain ⟨g', o', h1, h2⟩ := h.rowAt hl
  injection h1 with h1
  injection h1 with h1 h3
  subst h1 h3
  exact h2 0 (by omega)
set_option maxRecDepth 100000 in
set_option maxHeartbeats 2000000 in
theorem vcells_any (p b V : Nat) (L : List InsZ) (size out : Int) (r n : List Int) (aL : Option Addr) (cL : Nat) (ar : Option Addr) (cr : Nat) (an : Option Addr) (cn : Nat) (w : World) (H : VF p L size out r n) (hV : VW p b V L size out r n aL cL ar cr an cn w) (op ia ib ic : Int) (hi : I64 ia ∧ I64 ib ∧ I64 ic) :
    Calls Tryz.prog 111 #[.pointer (some ⟨V, 0, none⟩), .agg #[.int .i64 op, .int .i64 ia, .int .i64 ib, .int .i64 ic]] w fun e w' => e = .returned (.agg #[.int .i64 (tvC p r 0 ⟨op, ia, ib, ic⟩), .int .i64 (tvC p r 1 ⟨op, ia, ib, ic⟩), .int .i64 (tvC p r 2 ⟨op, ia, ib, ic⟩)]) ∧ Below w.heap.size w w' := by
  have h3 := H.h3
  have h4 := H.h4
  obtain ⟨V1, hV1⟩ : ∃ V1, V1 = w.alloc (.cells #[.int .i64 op, .int .i64 ia, .int .i64 ib, .int .i64 ic] 44) := ⟨_, rfl⟩
  obtain ⟨W0, hW0⟩ : ∃ W0, W0 = V1.alloc (.cells #[.int .i64 0, .int .i64 0, .int .i64 0] 56) := ⟨_, rfl⟩
  have b1 : Below w.heap.size w V1 := by rw [hV1]; exact (Below.refl _ _).alloc (Nat.le_refl _) _
  have hz1 : V1.heap.size = w.heap.size + 1 := by rw [hV1]; simp
  have b2 : Below V1.heap.size V1 W0 := by rw [hW0]; exact (Below.refl _ _).alloc (Nat.le_refl _) _
  have hb0 := b1.trans (b2.mono b1.size)
  have hs0 : W0.heap[w.heap.size]? = some (.cells #[.int .i64 op, .int .i64 ia, .int .i64 ib, .int .i64 ic] 44 (0, 0)) := (b2.block _ (by omega)).trans (by rw [hV1]; exact heap_alloc_new w _)
  have hr0 : W0.heap[w.heap.size + 1]? = some (.cells #[.int .i64 0, .int .i64 0, .int .i64 0] 56 (0, 0)) := by rw [hW0, ← hz1]; exact heap_alloc_new V1 _
  obtain ⟨I, hI⟩ : ∃ I, I = w.heap.size := ⟨_, rfl⟩
  obtain ⟨G, hG⟩ : ∃ G, G = w.heap.size + 1 := ⟨_, rfl⟩
  rw [← hI] at hs0
  rw [← hG] at hr0
  have HV0 := hid (hV.below hb0)
  have HB0 := hid hb0
  have HGW : Hid (w.heap.size ≤ G) := by unfold Hid; omega
  obtain ⟨br, orr, har, hrw⟩ := HV0.out.rowAt H.hr
  subst har
  have HK : Hid (∀ W, Below W0.heap.size W0 W → (W.cell? ⟨V, 0, none⟩ = some (.pointer (some ⟨b, 0, none⟩)) ∧ W.cell? ⟨V, 4, none⟩ = some (.slice (some ⟨br, orr, none⟩) r.length cr) ∧ W.cell? ⟨br, orr, none⟩ = some (.int .i64 (zat r 0)) ∧ W.cell? ⟨br, orr + 1, none⟩ = some (.int .i64 (zat r 1)) ∧ W.cell? ⟨I, 0, none⟩ = some (.int .i64 op) ∧ W.cell? ⟨I, 1, none⟩ = some (.int .i64 ia) ∧ W.cell? ⟨I, 2, none⟩ = some (.int .i64 ib) ∧ W.cell? ⟨I, 3, none⟩ = some (.int .i64 ic))) := fun W h => by
    obtain ⟨c0, _, _, _, c4, _⟩ := (HV0.out.below h).cells
    have hi2 := (h.block I (Array.getElem?_eq_some_iff.1 hs0).1).trans hs0
    have q0 := hrw 0 (by omega)
    have q1 := hrw 1 (by omega)
    exact ⟨c0, c4, (h.cell (p := ⟨br, orr, none⟩) (World.block_lt_of_cell? _ _ q0)).trans q0, (h.cell (p := ⟨br, orr + 1, none⟩) (World.block_lt_of_cell? _ _ q1)).trans q1, by simp [World.cell?, hi2], by simp [World.cell?, hi2], by simp [World.cell?, hi2], by simp [World.cell?, hi2]⟩
  have HK2 : Hid (∀ (W : World) (a b' c' : Value), Below W0.heap.size W0 W → ((((W.setCell ⟨G, 0, none⟩ a).setCell ⟨G, 1, none⟩ b').setCell ⟨G, 2, none⟩ c').cell? ⟨V, 0, none⟩ = some (.pointer (some ⟨b, 0, none⟩)) ∧ (((W.setCell ⟨G, 0, none⟩ a).setCell ⟨G, 1, none⟩ b').setCell ⟨G, 2, none⟩ c').cell? ⟨V, 4, none⟩ = some (.slice (some ⟨br, orr, none⟩) r.length cr) ∧ (((W.setCell ⟨G, 0, none⟩ a).setCell ⟨G, 1, none⟩ b').setCell ⟨G, 2, none⟩ c').cell? ⟨br, orr, none⟩ = some (.int .i64 (zat r 0)) ∧ (((W.setCell ⟨G, 0, none⟩ a).setCell ⟨G, 1, none⟩ b').setCell ⟨G, 2, none⟩ c').cell? ⟨br, orr + 1, none⟩ = some (.int .i64 (zat r 1)) ∧ (((W.setCell ⟨G, 0, none⟩ a).setCell ⟨G, 1, none⟩ b').setCell ⟨G, 2, none⟩ c').cell? ⟨I, 0, none⟩ = some (.int .i64 op) ∧ (((W.setCell ⟨G, 0, none⟩ a).setCell ⟨G, 1, none⟩ b').setCell ⟨G, 2, none⟩ c').cell? ⟨I, 1, none⟩ = some (.int .i64 ia) ∧ (((W.setCell ⟨G, 0, none⟩ a).setCell ⟨G, 1, none⟩ b').setCell ⟨G, 2, none⟩ c').cell? ⟨I, 2, none⟩ = some (.int .i64 ib) ∧ (((W.setCell ⟨G, 0, none⟩ a).setCell ⟨G, 1, none⟩ b').setCell ⟨G, 2, none⟩ c').cell? ⟨I, 3, none⟩ = some (.int .i64 ic))) := fun W a b' c' h => by
    have hvl : V ≠ G := by have := (Array.getElem?_eq_some_iff.1 hV.blk).1; omega
    have hrl : br ≠ G := by
      have h9 : br < w.heap.size := World.block_lt_of_cell? _ _ (hrw0 hV H.hr)
      omega
    have hil : I ≠ G := by omega
    simp only [put3_cell (p := ⟨V, 0, none⟩) hvl, put3_cell (p := ⟨V, 4, none⟩) hvl, put3_cell (p := ⟨br, orr, none⟩) hrl, put3_cell (p := ⟨br, orr + 1, none⟩) hrl, put3_cell (p := ⟨I, 0, none⟩) hil, put3_cell (p := ⟨I, 1, none⟩) hil, put3_cell (p := ⟨I, 2, none⟩) hil, put3_cell (p := ⟨I, 3, none⟩) hil]
    exact HK.out W h
  have HCL : Hid (∀ W, Below W0.heap.size W0 W → Calls Tryz.prog 72 #[.pointer (some ⟨b, 0, none⟩), .agg #[.int .i64 op, .int .i64 ia, .int .i64 ib, .int .i64 ic], .int .i64 (zat r 0), .int .i64 (zat r 1)] W fun e w' => e = .returned (.agg #[.int .i64 (tvC p r 0 ⟨op, ia, ib, ic⟩), .int .i64 (tvC p r 1 ⟨op, ia, ib, ic⟩), .int .i64 (tvC p r 2 ⟨op, ia, ib, ic⟩)]) ∧ Below W0.heap.size W0 w') := fun W h => by
    refine (mcells_all p b op ia ib ic (zat r 0) (zat r 1) W h3 h4 (HV0.out.below h).fld ⟨hi.1, hi.2.1, hi.2.2, H.fr 0, H.fr 1⟩).mono ?_
    rintro e w' ⟨rfl, hb⟩
    exact ⟨rfl, h.trans (hb.mono h.size)⟩
  have HR3 : Hid (∀ W, Below W0.heap.size W0 W → W.heap[G]? = some (.cells #[.int .i64 0, .int .i64 0, .int .i64 0] 56 (0, 0))) := fun W h => (h.block G (Array.getElem?_eq_some_iff.1 hr0).1).trans hr0
  have l0 : (0 : Int) < (r.length : Int) := by have := H.hr; omega
  have l1 : (1 : Int) < (r.length : Int) := by have := H.hr; omega
  have l0' : 0 < r.length := by have := H.hr; omega
  have l1' : 1 < r.length := by have := H.hr; omega
  have hdd : Below W0.heap.size W0 W0.drew := (Below.refl _ _).drew
  have hd0 : Below W0.heap.size W0 W0 := Below.refl _ _
  generalize tvC p r 0 ⟨op, ia, ib, ic⟩ = y0 at *
  generalize tvC p r 1 ⟨op, ia, ib, ic⟩ = y1 at *
  generalize tvC p r 2 ⟨op, ia, ib, ic⟩ = y2 at *
  generalize zat r 0 = x0 at *
  generalize zat r 1 = x1 at *
  generalize r.length = lr at *
  clear H hV b1 b2 hb0 hs0 hr0 hrw hi HV0
  go_enter Tryz.func111, Tryz.ntmps111
  go_wp2_with fail
  rw [← hV1, ← hW0]
  rw [← hG, ← hI]
  clear hV1 hW0 hz1 hG hI
  go_region_held3 (fun W => W.cell? ⟨V, 0, none⟩ = some (.pointer (some ⟨b, 0, none⟩)) ∧ W.cell? ⟨V, 4, none⟩ = some (.slice (some ⟨br, orr, none⟩) lr cr) ∧ W.cell? ⟨br, orr, none⟩ = some (.int .i64 x0) ∧ W.cell? ⟨br, orr + 1, none⟩ = some (.int .i64 x1) ∧ W.cell? ⟨I, 0, none⟩ = some (.int .i64 op) ∧ W.cell? ⟨I, 1, none⟩ = some (.int .i64 ia) ∧ W.cell? ⟨I, 2, none⟩ = some (.int .i64 ib) ∧ W.cell? ⟨I, 3, none⟩ = some (.int .i64 ic)) (first | exact HK.out _ (by assumption) | exact HK2.out _ _ _ _ (by assumption))
    (first | (go_at_call 72; refine (HCL.out _ (by assumption)).mono ?_; rintro e w' ⟨rfl, hb'⟩; have hg := HR3.out _ hb'; have z0 : w'.cell? ⟨G, 0, none⟩ = some (.int .i64 0) := (by simp [World.cell?, hg]); have z1 : w'.cell? ⟨G, 1, none⟩ = some (.int .i64 0) := (by simp [World.cell?, hg]); have z2 : w'.cell? ⟨G, 2, none⟩ = some (.int .i64 0) := (by simp [World.cell?, hg]); have y' : ∀ i, w'.frozen? ⟨G, i, none⟩ = false := (row3_of hg).frozen))
  have HBX := hid (HB0.out.trans (hb'.mono HB0.out.size))
  go_wp2_with fail
  (try simp only [Exit.inBlock, Exit.then])
  refine bodyPost_ret (results_cell_row rfl _ _ G 56 #[.int .i64 y0, .int .i64 y1, .int .i64 y2] (0, 0) _ rfl (put3_heap hg (.int .i64 y0) (.int .i64 y1) (.int .i64 y2)) Tryz.underlying56 rfl (by kernel_rfl)) rfl ?_
  first
    | exact ⟨rfl, put3_below HBX.out HGW.out _ _ _⟩
    | exact ⟨rfl, (put3_below HBX.out HGW.out _ _ _).drew⟩

set_option maxRecDepth 100000 in
set_option maxHeartbeats 2000000 in
theorem vfirstCell_any (p b V : Nat) (L : List InsZ) (size out : Int) (r n : List Int) (aL : Option Addr) (cL : Nat) (ar : Option Addr) (cr : Nat) (an : Option Addr) (cn : Nat) (w : World) (H : VF p L size out r n) (hV : VW p b V L size out r n aL cL ar cr an cn w) (k : Nat) (op ia ib ic : Int) (hi : I64 ia ∧ I64 ib ∧ I64 ic) :
    Calls Tryz.prog 88 #[.pointer (some ⟨V, 0, none⟩), .int .i64 (k : Int), .agg #[.int .i64 op, .int .i64 ia, .int .i64 ib, .int .i64 ic]] w fun e w' => e = .returned (.int .i64 (tvC p r 0 ⟨op, ia, ib, ic⟩)) ∧ Below w.heap.size w w' := by
  obtain ⟨W0, hW0⟩ : ∃ W0, W0 = w.alloc (.cells #[.int .i64 op, .int .i64 ia, .int .i64 ib, .int .i64 ic] 44) := ⟨_, rfl⟩
  have hb0 : Below w.heap.size w W0 := by rw [hW0]; exact (Below.refl _ _).alloc (Nat.le_refl _) _
  have HC := hid (vcells_any p b V L size out r n aL cL ar cr an cn W0 H (hV.below hb0) op ia ib ic hi)
  have HB0 := hid hb0
  generalize tvC p r 0 ⟨op, ia, ib, ic⟩ = y0 at *
  generalize tvC p r 1 ⟨op, ia, ib, ic⟩ = y1 at *
  generalize tvC p r 2 ⟨op, ia, ib, ic⟩ = y2 at *
  have hx0 := iy3_0 y0 y1 y2
  have hx1 := iy3_1 y0 y1 y2
  have hx2 := iy3_2 y0 y1 y2
  clear H hV hb0 hi
  go_enter Tryz.func88, Tryz.ntmps88
  go_wp2_with fail
  rw [← hW0]
  clear hW0
  refine HC.out.mono ?_
  rintro e w1 ⟨rfl, hb1⟩
  have HB1 := hid (HB0.out.trans (hb1.mono HB0.out.size))
  clear hb1 HC
  go_wp2_with fail
  go_ret
  exact ⟨rfl, HB1.out⟩

set_option maxRecDepth 100000 in
set_option maxHeartbeats 2000000 in
theorem vsecondCell_any (p b V : Nat) (L : List InsZ) (size out : Int) (r n : List Int) (aL : Option Addr) (cL : Nat) (ar : Option Addr) (cr : Nat) (an : Option Addr) (cn : Nat) (w : World) (H : VF p L size out r n) (hV : VW p b V L size out r n aL cL ar cr an cn w) (k : Nat) (op ia ib ic : Int) (hi : I64 ia ∧ I64 ib ∧ I64 ic) :
    Calls Tryz.prog 89 #[.pointer (some ⟨V, 0, none⟩), .int .i64 (k : Int), .agg #[.int .i64 op, .int .i64 ia, .int .i64 ib, .int .i64 ic]] w fun e w' => e = .returned (.int .i64 (tvC p r 1 ⟨op, ia, ib, ic⟩)) ∧ Below w.heap.size w w' := by
  obtain ⟨W0, hW0⟩ : ∃ W0, W0 = w.alloc (.cells #[.int .i64 op, .int .i64 ia, .int .i64 ib, .int .i64 ic] 44) := ⟨_, rfl⟩
  have hb0 : Below w.heap.size w W0 := by rw [hW0]; exact (Below.refl _ _).alloc (Nat.le_refl _) _
  have HC := hid (vcells_any p b V L size out r n aL cL ar cr an cn W0 H (hV.below hb0) op ia ib ic hi)
  have HB0 := hid hb0
  generalize tvC p r 0 ⟨op, ia, ib, ic⟩ = y0 at *
  generalize tvC p r 1 ⟨op, ia, ib, ic⟩ = y1 at *
  generalize tvC p r 2 ⟨op, ia, ib, ic⟩ = y2 at *
  have hx0 := iy3_0 y0 y1 y2
  have hx1 := iy3_1 y0 y1 y2
  have hx2 := iy3_2 y0 y1 y2
  clear H hV hb0 hi
  go_enter Tryz.func89, Tryz.ntmps89
  go_wp2_with fail
  rw [← hW0]
  clear hW0
  refine HC.out.mono ?_
  rintro e w1 ⟨rfl, hb1⟩
  have HB1 := hid (HB0.out.trans (hb1.mono HB0.out.size))
  clear hb1 HC
  go_wp2_with fail
  go_ret
  exact ⟨rfl, HB1.out⟩

set_option maxRecDepth 100000 in
set_option maxHeartbeats 2000000 in
theorem vthirdCell_any (p b V : Nat) (L : List InsZ) (size out : Int) (r n : List Int) (aL : Option Addr) (cL : Nat) (ar : Option Addr) (cr : Nat) (an : Option Addr) (cn : Nat) (w : World) (H : VF p L size out r n) (hV : VW p b V L size out r n aL cL ar cr an cn w) (k : Nat) (op ia ib ic : Int) (hi : I64 ia ∧ I64 ib ∧ I64 ic) :
    Calls Tryz.prog 90 #[.pointer (some ⟨V, 0, none⟩), .int .i64 (k : Int), .agg #[.int .i64 op, .int .i64 ia, .int .i64 ib, .int .i64 ic]] w fun e w' => e = .returned (.int .i64 (tvC p r 2 ⟨op, ia, ib, ic⟩)) ∧ Below w.heap.size w w' := by
  obtain ⟨W0, hW0⟩ : ∃ W0, W0 = w.alloc (.cells #[.int .i64 op, .int .i64 ia, .int .i64 ib, .int .i64 ic] 44) := ⟨_, rfl⟩
  have hb0 : Below w.heap.size w W0 := by rw [hW0]; exact (Below.refl _ _).alloc (Nat.le_refl _) _
  have HC := hid (vcells_any p b V L size out r n aL cL ar cr an cn W0 H (hV.below hb0) op ia ib ic hi)
  have HB0 := hid hb0
  generalize tvC p r 0 ⟨op, ia, ib, ic⟩ = y0 at *
  generalize tvC p r 1 ⟨op, ia, ib, ic⟩ = y1 at *
  generalize tvC p r 2 ⟨op, ia, ib, ic⟩ = y2 at *
  have hx0 := iy3_0 y0 y1 y2
  have hx1 := iy3_1 y0 y1 y2
  have hx2 := iy3_2 y0 y1 y2
  clear H hV hb0 hi
  go_enter Tryz.func90, Tryz.ntmps90
  go_wp2_with fail
  rw [← hW0]
  clear hW0
  refine HC.out.mono ?_
  rintro e w1 ⟨rfl, hb1⟩
  have HB1 := hid (HB0.out.trans (hb1.mono HB0.out.size))
  clear hb1 HC
  go_wp2_with fail
  go_ret
  exact ⟨rfl, HB1.out⟩

end Go.Proofs.YtfppkjpgihnibaaGreat
