/- The law GatesCatches: its walk. -/
import Derived.Test.YtaapbopcfpihbabDoorGcAR
import Derived.Test.YtaapbopcfpihbabDoorSmgD
import Derived.Test.YtaapbopcfpihbabDoorLawUTotals
namespace Go.Proofs.YtaapbopcfpihbabDoor
open Go.RowKit

theorem one_lst (W : World) (x : Int) : Lst (W.alloc (.cells #[.int .i64 x] 3)).heap.size (W.alloc (.cells #[.int .i64 x] 3)) (some ⟨W.heap.size, 0, none⟩) 1 [x] := by
  refine ⟨fun k hk => ?_, by simp, fun h => by cases h⟩
  obtain rfl : k = 0 := by simp at hk; exact hk
  exact ⟨W.heap.size, 0, rfl, by simp, by simp [zat]⟩
/-- is something among the first so far not so? -/
def unf (P : Nat → Bool) (v : Nat) : Nat → Bool
  | 0 => false
  | k + 1 => unf P v k || (decide (k ≤ v) && !P k)
theorem unf_false {P : Nat → Bool} {v : Nat} : ∀ {k : Nat}, unf P v k = false → ∀ t, t < k → t ≤ v → P t = true
  | 0, _, t, ht, _ => by omega
  | k + 1, h, t, ht, hv => by
    rw [unf, Bool.or_eq_false_iff] at h
    by_cases e : t = k
    · subst e
      have := h.2
      rw [decide_eq_true hv] at this
      simpa using this
    · exact unf_false h.1 t (by omega) hv
theorem unf_true {P : Nat → Bool} {v : Nat} : ∀ {k : Nat}, unf P v k = true → ∃ t, P t = false
  | 0, h => by cases h
  | k + 1, h => by
    rw [unf, Bool.or_eq_true] at h
    rcases h with h | h
    · exact unf_true h
    · exact ⟨k, by simp at h; exact h.2⟩
theorem onl_fits {p : Nat} (h3 : 3 ≤ p) (h4 : p ≤ 2147483647) (x y : List Int) (t : Int) : Fits (onl p x y t) := fun j hj => by
  unfold onl at *
  rw [ls_len] at hj
  rw [ls_at _ _ _ hj]
  have := emod_bounds (zat x j + t * (zat y j - zat x j)) p h3
  omega
theorem fits_one {x : Int} (h1 : -9223372036854775808 ≤ x) (h2 : x ≤ 9223372036854775807) : Fits [x] := fun j hj => by
  obtain rfl : j = 0 := by simp at hj; exact hj
  simp [zat]
  omega

set_option maxRecDepth 100000 in
set_option maxHeartbeats 4000000 in
theorem jcatches_good (q cL ci cz ct cx cy cl : Nat) (wide layer : Int) (aL ai az at' ax ay al : Option Addr) (lys : List (List GatZ)) (inputs z told x y line : List Int) (w : World) (hT : TabAt 2 Lib.deBruijn64tab w) (h3 : 3 ≤ q) (h4 : q ≤ 2147483647) (hpr : Num.Prime q) (hB : CirB lys) (hl : LstGG w.heap.size w aL cL lys) (hI : InL w ai ci inputs) (hz : InL w az cz z) (htt : InL w at' ct told) (hx : InL w ax cx x) (hyy : InL w ay cy y) (hll : InL w al cl line) :
    Calls Tryd.prog 3 #[.int .i64 (q : Int), .agg #[.int .i64 wide, .slice aL lys.length cL], .int .i64 layer, .slice ai inputs.length ci, .slice az z.length cz, .slice at' told.length ct, .slice ax x.length cx, .slice ay y.length cy, .slice al line.length cl] w fun e w' => e = .returned (.bool true) ∧ Below w.heap.size w w' := by
  obtain ⟨W0, hW0⟩ : ∃ W0, W0 = w.alloc (.cells #[.int .i64 wide, .slice aL lys.length cL] 24) := ⟨_, rfl⟩
  obtain ⟨hb0, hs0, hz0⟩ := own_blk hW0
  obtain ⟨G, hG⟩ : ∃ G, G = w.heap.size := ⟨_, rfl⟩
  rw [← hG] at hs0
  have HC : Hid (∀ W, Below W0.heap.size W0 W → W.cell? ⟨G, 0, none⟩ = some (.int .i64 wide) ∧ W.cell? ⟨G, 1, none⟩ = some (.slice aL lys.length cL)) := fun W hW => by
    have e1 := (hW.block G (Array.getElem?_eq_some_iff.1 hs0).1).trans hs0
    exact ⟨by simp [World.cell?, e1], by simp [World.cell?, e1]⟩
  have HBK : Hid (∀ W, Below W0.heap.size W0 W → Below w.heap.size w W) := fun W hW => hb0.trans (hW.mono hb0.size)
  have HFY := hid (field_yes q W0 h3 h4 hpr)
  have HIT : Hid (∀ (b : Nat) (W1 W : World), W1.cell? ⟨b, 0, none⟩ = some (.int .i64 q) → Below W0.heap.size W0 W1 → Below W1.heap.size W1 W → InT q b W) := fun b W1 W h1 h2 h5 => by
    have hw := hb0.trans ((h2.trans (h5.mono h2.size)).mono hb0.size)
    exact ⟨⟨hpr, h3, h4, (h5.cell (p := ⟨b, 0, none⟩) (heap_lt h1)).trans h1⟩, tabu_below hT hw⟩
  have HVA : Hid (∀ (b : Nat) (W : World), InT q b W → Below W0.heap.size W0 W → Calls Tryd.prog 6 #[.pointer (some ⟨b, 0, none⟩), .agg #[.int .i64 wide, .slice aL lys.length cL], .slice ai inputs.length ci] W fun e w' => ∃ v, e = .returned (.tuple #[v, errz (vle wide lys inputs.length)]) ∧ OwnR W.heap.size w' v (gvr q wide lys inputs) ∧ Below W.heap.size W w') := fun b W h1 h2 => by
    have hw := hb0.trans (h2.mono hb0.size)
    exact gatesValues_any q b cL ci wide aL ai lys inputs W h1 hB (hl.step hw) ((hI.below hw).lst) hI.fit
  have HPT : Hid (∀ (b : Nat) (W : World) (a : Option Addr) (c : Nat) (l : List Int), InT q b W → Below W0.heap.size W0 W → Fits l → Lst W.heap.size W a c l → Calls Tryd.prog 5 #[.pointer (some ⟨b, 0, none⟩), .agg #[.int .i64 wide, .slice aL lys.length cL], .int .i64 layer, .slice ai inputs.length ci, .slice az z.length cz, .slice a l.length c] W fun e w' => e = .returned (.tuple #[.int .i64 (ptv q wide lys inputs layer z l), errz (pte wide lys inputs.length layer z.length l.length)]) ∧ Below W.heap.size W w') := fun b W a c l h1 h2 h5 h6 => by
    have hw := hb0.trans (h2.mono hb0.size)
    exact part_all q b cL ci cz c wide layer aL ai az a lys inputs z l W h1 hB (hl.step hw) ((hI.below hw).lst) hI.fit hz.fit h5 (hz.below hw).lst.row h6
  have HADD : Hid (∀ (u v : Int) (W : World), (0 ≤ u ∧ u < q) → (0 ≤ v ∧ v < q) → Calls Tryd.prog 7 #[.int .i64 (q : Int), .int .i64 u, .int .i64 v] W fun e w' => e = .returned (.int .i64 ((u + v) % (q : Int))) ∧ w' = W) := fun u v W h1 h2 => radd_any q u v W h3 h4 (by omega) (by omega) (by omega) (by omega)
  have HB0 := hid hb0
  have HWG := hid hW0
  have HG := hid hG
  have hlen := hB.len
  have hilen := hI.len
  have hzlen := hz.len
  have hxlen := hx.len
  have hylen := hyy.len
  have htlen := htt.len
  have hnlen := hll.len
  have HEX : Hid (∀ (b : Nat) (W : World) (a a' : Option Addr) (c c' : Nat) (l l' : List Int), InT q b W → InL W a c l → InL W a' c' l' → Calls Tryd.prog 11 #[.pointer (some ⟨b, 0, none⟩), .slice a l.length c, .slice a' l'.length c'] W fun e w' => e = .returned (.tuple #[.int .i64 (exz q l l'), errz (exe l l')]) ∧ Below W.heap.size W w') := fun b W a a' c c' l l' h1 h5 h6 => ext_as q b c c' a a' l l' W h1 h5 h6
  have HTT : Hid (∀ (W : World) (r : Int), i64B r → Below W0.heap.size W0 W → Calls Tryd.prog 8 #[.int .i64 (q : Int), .slice at' told.length ct, .int .i64 r] W fun e w' => e = .returned (.int .i64 (atz q told r)) ∧ Below W.heap.size W w') := fun W r hr h2 =>
    rthrough_any q ct at' told r W h3 h4 htt.len htt.fit hr.1 hr.2 (htt.below (hb0.trans (h2.mono hb0.size))).lst.row
  have HTL : Hid (∀ (W : World) (r : Int), i64B r → Below W0.heap.size W0 W → Calls Tryd.prog 8 #[.int .i64 (q : Int), .slice al line.length cl, .int .i64 r] W fun e w' => e = .returned (.int .i64 (atz q line r)) ∧ Below W.heap.size W w') := fun W r hr h2 =>
    rthrough_any q cl al line r W h3 h4 hll.len hll.fit hr.1 hr.2 (hll.below (hb0.trans (h2.mono hb0.size))).lst.row
  have HOX : Hid (∀ (W : World) (r : Int), i64B r → x.length ≤ 1000000 → y.length = x.length → Below W0.heap.size W0 W → Calls Tryd.prog 10 #[.int .i64 (q : Int), .slice ax x.length cx, .slice ay y.length cy, .int .i64 r] W fun e w' => ∃ a' c', e = .returned (.slice a' x.length c') ∧ Lst w'.heap.size w' a' c' (onl q x y r) ∧ Below W.heap.size W w') := fun W r hr hx1 hx2 h2 =>
    ron_any q cx cy ax ay x y r W h3 h4 hx1 hx2 hx.fit hyy.fit hr (hx.below (hb0.trans (h2.mono hb0.size))).lst.row (hyy.below (hb0.trans (h2.mono hb0.size))).lst.row
  have HTR : Hid (∀ W, Below W0.heap.size W0 W → RowB W.heap.size W at' told) := fun W h2 => (htt.below (hb0.trans (h2.mono hb0.size))).lst.row
  have HTF := hid htt.fit
  have HON : Hid (∀ (b : Nat) (W : World), InT q b W → Calls Tryd.prog 5 #[.pointer (some ⟨b, 0, none⟩), .agg #[.int .i64 0, .slice (some ⟨W.heap.size + 1, 0, none⟩) 1 1], .int .i64 0, .slice (some ⟨W.heap.size + 1 + 1, 0, none⟩) 1 1, .slice none 0 0, .slice none 0 0] (((W.alloc (.cells #[.int .i64 1, .int .i64 0, .int .i64 0] 34)).alloc (.cells #[.slice (some ⟨W.heap.size, 0, none⟩) 1 1] 35)).alloc (.cells #[.int .i64 1] 3)) fun e w' => e = .returned (.tuple #[.int .i64 1, .nilIface]) ∧ Below W.heap.size W w') := fun b W h => one_part q b W h
  have HPR := hid hpr
  obtain ⟨c0, c1⟩ := HC.out W0 (Below.refl _ _)
  clear hT hpr hB hl hI hW0 hb0 hs0 hz0 hG hz hx htt hyy hll
  go_enter Tryd.func3, Tryd.ntmps3
  go_wp2_with fail
  rw [← HWG.out, ← HG.out]
  clear HWG
  refine HFY.out.mono ?_
  rintro e w1 ⟨rfl, hc1, hb1, hlt1⟩
  have HI1 := hid (fun W h => HIT.out W0.heap.size w1 W hc1 hb1 h)
  have HB1 := hid hb1
  obtain ⟨d0, d1⟩ := HC.out w1 hb1
  generalize W0.heap.size = b at HI1 ⊢
  clear hc1 hb1 hlt1 c0 c1 HFY HIT
  by_cases hq : 200 < (q : Int)
  case pos =>
    have HE := hid (HBK.out _ HB1.out)
    go_wp2_with fail
    go_ret
    exact ⟨rfl, HE.out⟩
  go_wp2_with fail
  refine (HON.out b w1 (HI1.out w1 (Below.refl _ _))).mono ?_
  rintro e w2 ⟨rfl, hb2⟩
  have HB12 := hid hb2
  have HB2 : Hid (Below W0.heap.size W0 w2) := HB1.out.trans (hb2.mono HB1.out.size)
  obtain ⟨d0, d1⟩ := HC.out w2 HB2.out
  clear hb2 HON
  go_wp2_with fail
  refine (HPT.out b w2 none 0 [] (HI1.out w2 HB12.out) HB2.out (fun j hj => by simp at hj) (Lst.none _ _)).mono ?_
  rintro e w3 ⟨rfl, hb3⟩
  have HB13 : Hid (Below w1.heap.size w1 w3) := HB12.out.trans (hb3.mono HB12.out.size)
  have HB3 : Hid (Below W0.heap.size W0 w3) := HB2.out.trans (hb3.mono HB2.out.size)
  obtain ⟨d0, d1⟩ := HC.out w3 HB3.out
  clear hb3
  rw [show ([] : List Int).length = 0 from rfl]
  by_cases hP : pte wide lys inputs.length layer z.length 0 = 0
  case neg =>
    rw [errz_some hP]
    generalize pte wide lys inputs.length layer z.length 0 = V at *
    generalize ptv q wide lys inputs layer z [] = E0 at *
    go_wp2_with fail
    refine (HVA.out b w3 (HI1.out w3 HB13.out) HB3.out).mono ?_
    rintro e w4 ⟨v4, rfl, ho4, hb4⟩
    have HE := hid (HBK.out _ (HB3.out.trans (hb4.mono HB3.out.size)))
    generalize errz (vle wide lys inputs.length) = er at *
    clear ho4 hb4
    go_wp2_with fail
    go_ret
    exact ⟨rfl, HE.out⟩
  rw [hP, errz_nil]
  obtain ⟨hV, ⟨hl0, hl1⟩, hzz, _⟩ := pte_zero hP
  obtain ⟨i, rfl⟩ := Int.eq_ofNat_of_zero_le hl0
  rw [Int.toNat_natCast] at hzz
  have hi : i < lys.length := by omega
  have HFZ := hid (vle_zero hV)
  obtain ⟨_, o3'⟩ := HFZ.out.1.bn (i := i) (by omega)
  have hn8 := HFZ.out.1.2.1.2
  have HTN : Hid ((gvs q lys inputs i).length = 2 ^ bnn wide lys i) := gvs_len HFZ.out.1 HFZ.out.2.2 (by omega)
  have HTF2 : Hid (Fits (gvs q lys inputs i)) := gvs_fits h3 h4 _ _ _
  have HYL : Hid ((gva q lys inputs (lys.length + 1)).length = lys.length + 1) := gva_len _ _ _ _
  have HYR : Hid (rat (gva q lys inputs (lys.length + 1)) i = gvs q lys inputs i) := gva_rat (by omega)
  have HG3 : gvr q wide lys inputs = gva q lys inputs (lys.length + 1) := by unfold gvr; rw [if_pos hV]
  rw [hV, HG3, errz_nil] at HVA
  have hE00 : ptv q wide lys inputs (i : Int) z [] = ptz q (lyt lys i) (gvs q lys inputs i) (bnn wide lys i) z [] := by unfold ptv; rw [show ([] : List Int).length = 0 from rfl, if_pos hP, Int.toNat_natCast]
  have HE00 := hid hE00
  have HP1 : Hid (pte wide lys inputs.length (i : Int) z.length 1 = 0 → 1 ≤ bnn wide lys i ∧ ∀ r : Int, ptv q wide lys inputs (i : Int) z [r] = ptz q (lyt lys i) (gvs q lys inputs i) (bnn wide lys i) z [r]) := fun h => by
    obtain ⟨_, _, _, hh⟩ := pte_zero h
    rw [Int.toNat_natCast] at hh
    exact ⟨by omega, fun r => by unfold ptv; rw [show [r].length = 1 from rfl, if_pos h, Int.toNat_natCast]⟩
  clear hE00 hP hl0 hl1 hzz hV HG3
  generalize ptv q wide lys inputs (i : Int) z [] = E0 at *
  go_wp2_with fail
  refine (HVA.out b w3 (HI1.out w3 HB13.out) HB3.out).mono ?_
  rintro e w4 ⟨v4, rfl, ho4, hb4⟩
  have HB14 : Hid (Below w1.heap.size w1 w4) := HB13.out.trans (hb4.mono HB13.out.size)
  have HB4 : Hid (Below W0.heap.size W0 w4) := HB3.out.trans (hb4.mono HB3.out.size)
  obtain ⟨d0, d1⟩ := HC.out w4 HB4.out
  obtain ⟨a4, c4, rfl, hLR⟩ := ho4.lst
  obtain ⟨b5, o5, ar, cr, rfl, hb5, hr1, hr2⟩ := hLR.row i (by rw [HYL.out]; omega)
  rw [HYR.out] at hr1 hr2
  have HRW : Hid (∀ W, Below w4.heap.size w4 W → W.cell? ⟨b5, o5 + i, none⟩ = some (.slice ar (gvs q lys inputs i).length cr) ∧ Lst W.heap.size W ar cr (gvs q lys inputs i)) := fun W hW => ⟨(hW.cell (p := ⟨b5, o5 + i, none⟩) hb5).trans hr1, (hr2.below hW).mono hW.size⟩
  rw [HYL.out]
  obtain ⟨T, hTT⟩ : ∃ T, T = gvs q lys inputs i := ⟨_, rfl⟩
  rw [← hTT] at HRW HTN HTF2 HE00 HP1
  obtain ⟨bl, hbl⟩ : ∃ v, v = bnn wide lys i := ⟨_, rfl⟩
  rw [← hbl] at HTN HE00 HP1 o3'
  have k1 : ¬ (i : Int) < 0 := by omega
  have k2 : ¬ (lys.length : Int) + 1 ≤ (i : Int) := by omega
  have k3 : (i : Int) < (lys.length : Int) + 1 := by omega
  clear ho4 hb4 hLR hb5 hr1 hr2 HYL HYR HVA hTT hbl hn8 HFZ
  go_wp2_with fail
  have HL5 : Hid (Lst (w4.alloc (.cells #[.int .i64 0] 3)).heap.size (w4.alloc (.cells #[.int .i64 0] 3)) (some ⟨w4.heap.size, 0, none⟩) 1 [0]) := one_lst w4 0
  have HA5 : Hid (Below w4.heap.size w4 (w4.alloc (.cells #[.int .i64 0] 3))) := (Below.refl _ _).alloc (Nat.le_refl _) _
  have HPX := hid (HPT.out b _ (some ⟨w4.heap.size, 0, none⟩) 1 [0] (HI1.out _ (HB14.out.trans (HA5.out.mono HB14.out.size))) (HB4.out.trans (HA5.out.mono HB4.out.size)) (fits_one (by omega) (by omega)) HL5.out)
  rw [show ([0] : List Int).length = 1 from rfl] at HPX
  refine HPX.out.mono ?_
  rintro e w5 ⟨rfl, hb5⟩
  have HB45 : Hid (Below w4.heap.size w4 w5) := HA5.out.trans (hb5.mono HA5.out.size)
  have HB5 : Hid (Below W0.heap.size W0 w5) := HB4.out.trans (HB45.out.mono HB4.out.size)
  obtain ⟨d0, d1⟩ := HC.out w5 HB5.out
  clear hb5 HL5 HA5 HPX
  generalize ptv q wide lys inputs (i : Int) z [0] = E1 at *
  by_cases hV1 : pte wide lys inputs.length (i : Int) z.length 1 = 0
  case neg =>
    rw [errz_some hV1]
    generalize pte wide lys inputs.length (i : Int) z.length 1 = V1 at *
    clear HPT HP1 hV1
    obtain ⟨hr1, hr2⟩ := HRW.out w5 HB45.out
    have HVR := hid (rvars_any T.length cr ar w5)
    rw [vrs_yes (by omega) HTN.out] at HVR
    have HBN := hid HB5.out
    have HB4T := hid HB45.out
    have HT12 : Hid (T.length ≤ 17592186043904) := by have := pow_6 (v := bl) (by omega); unfold Hid; rw [HTN.out]; omega
    obtain ⟨NT, hNT⟩ : ∃ N, N = T.length := ⟨_, rfl⟩
    have HNT := hid hNT
    rw [← hNT] at HVR hr1
    clear hr2 hNT
    go_wp2_with fail
    refine HVR.out.mono ?_
    rintro e w6 ⟨rfl, hw⟩
    have hw1 := hw.symm
    subst hw1
    clear hw HVR
    have hbw : IntKind.i64.wrap ((bl : Int) + 1) = (bl : Int) + 1 := by rw [IntKind.wrap_i64]; omega
    by_cases hs : x.length = bl ∧ y.length = bl ∧ line.length = bl + 1
    case neg =>
      have HE := hid (HBK.out _ HBN.out)
      by_cases s1 : x.length = bl
      · have s1' : ((x.length : Int) != (bl : Int)) = false := by rw [s1]; simp
        by_cases s2 : y.length = bl
        · have s2' : ((y.length : Int) != (bl : Int)) = false := by rw [s2]; simp
          have s3' : ((line.length : Int) != (bl : Int) + 1) = true := by rw [bne_iff_ne]; intro h; exact hs ⟨s1, s2, by omega⟩
          clear s1 s2 hs
          go_wp2_with fail
          go_ret
          exact ⟨rfl, HE.out⟩
        · have s2' : ((y.length : Int) != (bl : Int)) = true := by rw [bne_iff_ne]; omega
          clear s1 s2 hs
          go_wp2_with fail
          go_ret
          exact ⟨rfl, HE.out⟩
      · have s1' : ((x.length : Int) != (bl : Int)) = true := by rw [bne_iff_ne]; omega
        clear s1 hs
        go_wp2_with fail
        go_ret
        exact ⟨rfl, HE.out⟩
    obtain ⟨s1, s2, s5⟩ := hs
    have s1' : ((x.length : Int) != (bl : Int)) = false := by rw [s1]; simp
    have s2' : ((y.length : Int) != (bl : Int)) = false := by rw [s2]; simp
    have s3' : ((line.length : Int) != (bl : Int) + 1) = false := by rw [s5]; simp
    obtain ⟨PF, hPF⟩ : ∃ PF, PF = hdl q T x y line := ⟨_, rfl⟩
    have HSO : Hid (unf PF bl q = false → hcn PF q = q) := fun h => by
      rw [hPF] at h ⊢
      exact line_so HPR.out h3 HTN.out (by omega) s1 s5 (unf_false h)
    have HNO : Hid (unf PF bl q = true → hcn PF q ≤ bl) := fun h => by
      rw [hPF] at h ⊢
      obtain ⟨t0, h0⟩ := unf_true h
      exact line_not HPR.out h3 HTN.out (by omega) s1 s5 h0
    have HPF : Hid (∀ k : Nat, PF k = decide (atz q line (k : Int) = exz q T (onl q x y (k : Int)))) := fun k => by rw [hPF]; rfl
    have HEZ : Hid (∀ k : Nat, exe T (onl q x y (k : Int)) = 0) := fun k => exe_line HTN.out (by omega) s1 _
    have HXL : Hid (∀ k : Nat, (onl q x y (k : Int)).length = x.length) := fun k => ls_len _ _
    have HXF : Hid (∀ k : Nat, Fits (onl q x y (k : Int))) := fun k => onl_fits h3 h4 _ _ _
    have HOXX := hid (fun W (k : Nat) (hk : k < 201) h => HOX.out W (k : Int) ⟨by omega, by omega⟩ (by omega) (by omega) h)
    clear hPF s1 s2 s5 HOX
    go_wp2_with fail
    go_loopw [34, 35, 36, 37, 38, 39, 40] (fun uv hv tv _ _ _ _ wr => ∃ k : Nat, k ≤ q ∧ tv = .int .i64 (k : Int) ∧ uv = .bool (unf PF bl k) ∧ hv = .int .i64 ((hcn PF k : Nat) : Int) ∧ Hid (Below w5.heap.size w5 wr)) (fun _ _ tv _ _ _ _ _ => q - (intOf tv).toNat)
    case atStart => exact ⟨0, by omega, rfl, rfl, rfl, Below.refl _ _⟩
    case round =>
      obtain ⟨k, hk, rfl, rfl, rfl, hJ⟩ := hrel
      by_cases hkq : k < q
      · have hkq2 : (k : Int) < (q : Int) := by omega
        have hks : IntKind.i64.wrap ((k : Int) + 1) = (k : Int) + 1 := by rw [IntKind.wrap_i64]; omega
        have hhk := hcn_le PF k
        have HHS : Hid (hcn PF (k + 1) = hcn PF k + (if PF k then 1 else 0)) := rfl
        have HUS : Hid (unf PF bl (k + 1) = (unf PF bl k || (decide (k ≤ bl) && !PF k))) := rfl
        have HBR : Hid (Below W0.heap.size W0 wr) := HBN.out.trans (hJ.out.mono HBN.out.size)
        have HB4R : Hid (Below w4.heap.size w4 wr) := HB4T.out.trans (hJ.out.mono HB4T.out.size)
        have HPK := hid (HPF.out k)
        have HO := hid (HOXX.out wr k (by omega) HBR.out)
        have HJ := hid hJ.out
        have HLX := hid (HXL.out k)
        have HFX := hid (HXF.out k)
        have HEK := hid (HEZ.out k)
        generalize hcn PF k = hc at *
        generalize unf PF bl k = uk at *
        have hhw : IntKind.i64.wrap ((hc : Int) + 1) = (hc : Int) + 1 := by rw [IntKind.wrap_i64]; omega
        obtain ⟨L, hL⟩ : ∃ L, L = onl q x y (k : Int) := ⟨_, rfl⟩
        rw [← hL] at HPK HO HLX HFX HEK
        clear hJ hL
        go_wp2_with fail
        refine HO.out.mono ?_
        rintro e w7 ⟨a7, c7, rfl, hl7, hb7⟩
        have HB7 : Hid (Below W0.heap.size W0 w7) := HBR.out.trans (hb7.mono HBR.out.size)
        have HB47 : Hid (Below w4.heap.size w4 w7) := HB4R.out.trans (hb7.mono HB4R.out.size)
        obtain ⟨hr3, hr4⟩ := HRW.out w7 HB47.out
        have HEC := hid (HEX.out b w7 ar a7 cr c7 T L (HI1.out w7 (HB14.out.trans (HB47.out.mono HB14.out.size))) ⟨HT12.out, HTF2.out, hr4⟩ ⟨by rw [HLX.out]; omega, HFX.out, hl7⟩)
        rw [HEK.out, errz_nil, HLX.out, ← HNT.out] at HEC
        rw [← HNT.out] at hr3
        have HJ7 : Hid (Below w5.heap.size w5 w7) := HJ.out.trans (hb7.mono HJ.out.size)
        generalize exz q T L = mz at *
        clear hl7 hb7 hr4
        go_wp2_with fail
        refine HEC.out.mono ?_
        rintro e w8 ⟨rfl, hb8⟩
        have HB8 : Hid (Below W0.heap.size W0 w8) := HB7.out.trans (hb8.mono HB7.out.size)
        have HJ8 : Hid (Below w5.heap.size w5 w8) := HJ7.out.trans (hb8.mono HJ7.out.size)
        have HTX := hid (HTL.out w8 (k : Int) ⟨by omega, by omega⟩ HB8.out)
        generalize atz q line (k : Int) = kz at *
        clear hb8 hr3 HEC
        go_wp2_with fail
        refine HTX.out.mono ?_
        rintro e w9 ⟨rfl, hb9⟩
        have HJ9 : Hid (Below w5.heap.size w5 w9) := HJ8.out.trans (hb9.mono HJ8.out.size)
        clear hb9 HTX
        by_cases e : kz = mz
        · have e1 : (kz != mz) = false := by rw [e]; simp
          have e2 : (kz == mz) = true := by rw [e]; simp
          have hP1 : PF k = true := by rw [HPK.out]; simp [e]
          rw [hP1] at HHS HUS
          have HH : Hid (hcn PF (k + 1) = hc + 1) := HHS.out
          have HU : Hid (unf PF bl (k + 1) = uk) := by unfold Hid; rw [HUS.out]; simp
          clear e hP1 HPK HHS HUS
          by_cases kb : (k : Int) ≤ (bl : Int)
          all_goals
            go_wp2_with fail
            go_roundw
            case rel => exact ⟨k + 1, by omega, by go_num, by rw [HU.out], by rw [HH.out]; rfl, HJ9.out⟩
            case measure => simp [intOf]; omega
        · have e1 : (kz != mz) = true := by rw [bne_iff_ne]; exact e
          have e2 : (kz == mz) = false := by rw [beq_eq_false_iff_ne]; exact e
          have hP1 : PF k = false := by rw [HPK.out]; simp [e]
          rw [hP1] at HHS HUS
          have HH : Hid (hcn PF (k + 1) = hc) := HHS.out
          by_cases kb : (k : Int) ≤ (bl : Int)
          · have HU : Hid (unf PF bl (k + 1) = true) := by unfold Hid; rw [HUS.out, decide_eq_true (show k ≤ bl by omega)]; simp
            clear e hP1 HPK HHS HUS
            go_wp2_with fail
            go_roundw
            case rel => exact ⟨k + 1, by omega, by go_num, by rw [HU.out], by rw [HH.out], HJ9.out⟩
            case measure => simp [intOf]; omega
          · have HU : Hid (unf PF bl (k + 1) = uk) := by unfold Hid; rw [HUS.out, decide_eq_false (show ¬ k ≤ bl by omega)]; simp
            clear e hP1 HPK HHS HUS
            go_wp2_with fail
            go_roundw
            case rel => exact ⟨k + 1, by omega, by go_num, by rw [HU.out], by rw [HH.out], HJ9.out⟩
            case measure => simp [intOf]; omega
      · obtain rfl : k = q := by omega
        have hkq2 : ¬ (k : Int) < (k : Int) := by omega
        have HE := hid (HBK.out _ (HBN.out.trans (hJ.out.mono HBN.out.size)))
        clear hJ
        by_cases hu : unf PF bl k = true
        · have hle := HNO.out hu
          rw [hu]
          generalize hcn PF k = hc at *
          have hle2 : (hc : Int) ≤ (bl : Int) := by omega
          clear hle hu
          go_wp2_with fail
          go_ret
          exact ⟨rfl, HE.out⟩
        · have hu2 : unf PF bl k = false := by simpa using hu
          have hle := HSO.out hu2
          rw [hu2, hle]
          have hle2 : ((k : Int) == (k : Int)) = true := by simp
          clear hle hu hu2
          go_wp2_with fail
          go_ret
          exact ⟨rfl, HE.out⟩
  rw [hV1, errz_nil]
  by_cases h33 : told.length = 3
  case neg =>
    have k4 : ((told.length : Int) == 3) = false := by rw [beq_eq_false_iff_ne]; omega
    clear HPT HP1 h33
    obtain ⟨hr1, hr2⟩ := HRW.out w5 HB45.out
    have HVR := hid (rvars_any T.length cr ar w5)
    rw [vrs_yes (by omega) HTN.out] at HVR
    have HBN := hid HB5.out
    have HB4T := hid HB45.out
    have HT12 : Hid (T.length ≤ 17592186043904) := by have := pow_6 (v := bl) (by omega); unfold Hid; rw [HTN.out]; omega
    obtain ⟨NT, hNT⟩ : ∃ N, N = T.length := ⟨_, rfl⟩
    have HNT := hid hNT
    rw [← hNT] at HVR hr1
    clear hr2 hNT
    go_wp2_with fail
    refine HVR.out.mono ?_
    rintro e w6 ⟨rfl, hw⟩
    have hw1 := hw.symm
    subst hw1
    clear hw HVR
    have hbw : IntKind.i64.wrap ((bl : Int) + 1) = (bl : Int) + 1 := by rw [IntKind.wrap_i64]; omega
    by_cases hs : x.length = bl ∧ y.length = bl ∧ line.length = bl + 1
    case neg =>
      have HE := hid (HBK.out _ HBN.out)
      by_cases s1 : x.length = bl
      · have s1' : ((x.length : Int) != (bl : Int)) = false := by rw [s1]; simp
        by_cases s2 : y.length = bl
        · have s2' : ((y.length : Int) != (bl : Int)) = false := by rw [s2]; simp
          have s3' : ((line.length : Int) != (bl : Int) + 1) = true := by rw [bne_iff_ne]; intro h; exact hs ⟨s1, s2, by omega⟩
          clear s1 s2 hs
          go_wp2_with fail
          go_ret
          exact ⟨rfl, HE.out⟩
        · have s2' : ((y.length : Int) != (bl : Int)) = true := by rw [bne_iff_ne]; omega
          clear s1 s2 hs
          go_wp2_with fail
          go_ret
          exact ⟨rfl, HE.out⟩
      · have s1' : ((x.length : Int) != (bl : Int)) = true := by rw [bne_iff_ne]; omega
        clear s1 hs
        go_wp2_with fail
        go_ret
        exact ⟨rfl, HE.out⟩
    obtain ⟨s1, s2, s5⟩ := hs
    have s1' : ((x.length : Int) != (bl : Int)) = false := by rw [s1]; simp
    have s2' : ((y.length : Int) != (bl : Int)) = false := by rw [s2]; simp
    have s3' : ((line.length : Int) != (bl : Int) + 1) = false := by rw [s5]; simp
    obtain ⟨PF, hPF⟩ : ∃ PF, PF = hdl q T x y line := ⟨_, rfl⟩
    have HSO : Hid (unf PF bl q = false → hcn PF q = q) := fun h => by
      rw [hPF] at h ⊢
      exact line_so HPR.out h3 HTN.out (by omega) s1 s5 (unf_false h)
    have HNO : Hid (unf PF bl q = true → hcn PF q ≤ bl) := fun h => by
      rw [hPF] at h ⊢
      obtain ⟨t0, h0⟩ := unf_true h
      exact line_not HPR.out h3 HTN.out (by omega) s1 s5 h0
    have HPF : Hid (∀ k : Nat, PF k = decide (atz q line (k : Int) = exz q T (onl q x y (k : Int)))) := fun k => by rw [hPF]; rfl
    have HEZ : Hid (∀ k : Nat, exe T (onl q x y (k : Int)) = 0) := fun k => exe_line HTN.out (by omega) s1 _
    have HXL : Hid (∀ k : Nat, (onl q x y (k : Int)).length = x.length) := fun k => ls_len _ _
    have HXF : Hid (∀ k : Nat, Fits (onl q x y (k : Int))) := fun k => onl_fits h3 h4 _ _ _
    have HOXX := hid (fun W (k : Nat) (hk : k < 201) h => HOX.out W (k : Int) ⟨by omega, by omega⟩ (by omega) (by omega) h)
    clear hPF s1 s2 s5 HOX
    go_wp2_with fail
    go_loopw [34, 35, 36, 37, 38, 39, 40] (fun uv hv tv _ _ _ _ wr => ∃ k : Nat, k ≤ q ∧ tv = .int .i64 (k : Int) ∧ uv = .bool (unf PF bl k) ∧ hv = .int .i64 ((hcn PF k : Nat) : Int) ∧ Hid (Below w5.heap.size w5 wr)) (fun _ _ tv _ _ _ _ _ => q - (intOf tv).toNat)
    case atStart => exact ⟨0, by omega, rfl, rfl, rfl, Below.refl _ _⟩
    case round =>
      obtain ⟨k, hk, rfl, rfl, rfl, hJ⟩ := hrel
      by_cases hkq : k < q
      · have hkq2 : (k : Int) < (q : Int) := by omega
        have hks : IntKind.i64.wrap ((k : Int) + 1) = (k : Int) + 1 := by rw [IntKind.wrap_i64]; omega
        have hhk := hcn_le PF k
        have HHS : Hid (hcn PF (k + 1) = hcn PF k + (if PF k then 1 else 0)) := rfl
        have HUS : Hid (unf PF bl (k + 1) = (unf PF bl k || (decide (k ≤ bl) && !PF k))) := rfl
        have HBR : Hid (Below W0.heap.size W0 wr) := HBN.out.trans (hJ.out.mono HBN.out.size)
        have HB4R : Hid (Below w4.heap.size w4 wr) := HB4T.out.trans (hJ.out.mono HB4T.out.size)
        have HPK := hid (HPF.out k)
        have HO := hid (HOXX.out wr k (by omega) HBR.out)
        have HJ := hid hJ.out
        have HLX := hid (HXL.out k)
        have HFX := hid (HXF.out k)
        have HEK := hid (HEZ.out k)
        generalize hcn PF k = hc at *
        generalize unf PF bl k = uk at *
        have hhw : IntKind.i64.wrap ((hc : Int) + 1) = (hc : Int) + 1 := by rw [IntKind.wrap_i64]; omega
        obtain ⟨L, hL⟩ : ∃ L, L = onl q x y (k : Int) := ⟨_, rfl⟩
        rw [← hL] at HPK HO HLX HFX HEK
        clear hJ hL
        go_wp2_with fail
        refine HO.out.mono ?_
        rintro e w7 ⟨a7, c7, rfl, hl7, hb7⟩
        have HB7 : Hid (Below W0.heap.size W0 w7) := HBR.out.trans (hb7.mono HBR.out.size)
        have HB47 : Hid (Below w4.heap.size w4 w7) := HB4R.out.trans (hb7.mono HB4R.out.size)
        obtain ⟨hr3, hr4⟩ := HRW.out w7 HB47.out
        have HEC := hid (HEX.out b w7 ar a7 cr c7 T L (HI1.out w7 (HB14.out.trans (HB47.out.mono HB14.out.size))) ⟨HT12.out, HTF2.out, hr4⟩ ⟨by rw [HLX.out]; omega, HFX.out, hl7⟩)
        rw [HEK.out, errz_nil, HLX.out, ← HNT.out] at HEC
        rw [← HNT.out] at hr3
        have HJ7 : Hid (Below w5.heap.size w5 w7) := HJ.out.trans (hb7.mono HJ.out.size)
        generalize exz q T L = mz at *
        clear hl7 hb7 hr4
        go_wp2_with fail
        refine HEC.out.mono ?_
        rintro e w8 ⟨rfl, hb8⟩
        have HB8 : Hid (Below W0.heap.size W0 w8) := HB7.out.trans (hb8.mono HB7.out.size)
        have HJ8 : Hid (Below w5.heap.size w5 w8) := HJ7.out.trans (hb8.mono HJ7.out.size)
        have HTX := hid (HTL.out w8 (k : Int) ⟨by omega, by omega⟩ HB8.out)
        generalize atz q line (k : Int) = kz at *
        clear hb8 hr3 HEC
        go_wp2_with fail
        refine HTX.out.mono ?_
        rintro e w9 ⟨rfl, hb9⟩
        have HJ9 : Hid (Below w5.heap.size w5 w9) := HJ8.out.trans (hb9.mono HJ8.out.size)
        clear hb9 HTX
        by_cases e : kz = mz
        · have e1 : (kz != mz) = false := by rw [e]; simp
          have e2 : (kz == mz) = true := by rw [e]; simp
          have hP1 : PF k = true := by rw [HPK.out]; simp [e]
          rw [hP1] at HHS HUS
          have HH : Hid (hcn PF (k + 1) = hc + 1) := HHS.out
          have HU : Hid (unf PF bl (k + 1) = uk) := by unfold Hid; rw [HUS.out]; simp
          clear e hP1 HPK HHS HUS
          by_cases kb : (k : Int) ≤ (bl : Int)
          all_goals
            go_wp2_with fail
            go_roundw
            case rel => exact ⟨k + 1, by omega, by go_num, by rw [HU.out], by rw [HH.out]; rfl, HJ9.out⟩
            case measure => simp [intOf]; omega
        · have e1 : (kz != mz) = true := by rw [bne_iff_ne]; exact e
          have e2 : (kz == mz) = false := by rw [beq_eq_false_iff_ne]; exact e
          have hP1 : PF k = false := by rw [HPK.out]; simp [e]
          rw [hP1] at HHS HUS
          have HH : Hid (hcn PF (k + 1) = hc) := HHS.out
          by_cases kb : (k : Int) ≤ (bl : Int)
          · have HU : Hid (unf PF bl (k + 1) = true) := by unfold Hid; rw [HUS.out, decide_eq_true (show k ≤ bl by omega)]; simp
            clear e hP1 HPK HHS HUS
            go_wp2_with fail
            go_roundw
            case rel => exact ⟨k + 1, by omega, by go_num, by rw [HU.out], by rw [HH.out], HJ9.out⟩
            case measure => simp [intOf]; omega
          · have HU : Hid (unf PF bl (k + 1) = uk) := by unfold Hid; rw [HUS.out, decide_eq_false (show ¬ k ≤ bl by omega)]; simp
            clear e hP1 HPK HHS HUS
            go_wp2_with fail
            go_roundw
            case rel => exact ⟨k + 1, by omega, by go_num, by rw [HU.out], by rw [HH.out], HJ9.out⟩
            case measure => simp [intOf]; omega
      · obtain rfl : k = q := by omega
        have hkq2 : ¬ (k : Int) < (k : Int) := by omega
        have HE := hid (HBK.out _ (HBN.out.trans (hJ.out.mono HBN.out.size)))
        clear hJ
        by_cases hu : unf PF bl k = true
        · have hle := HNO.out hu
          rw [hu]
          generalize hcn PF k = hc at *
          have hle2 : (hc : Int) ≤ (bl : Int) := by omega
          clear hle hu
          go_wp2_with fail
          go_ret
          exact ⟨rfl, HE.out⟩
        · have hu2 : unf PF bl k = false := by simpa using hu
          have hle := HSO.out hu2
          rw [hu2, hle]
          have hle2 : ((k : Int) == (k : Int)) = true := by simp
          clear hle hu hu2
          go_wp2_with fail
          go_ret
          exact ⟨rfl, HE.out⟩
  have k4 : ((told.length : Int) == 3) = true := by rw [beq_iff_eq]; omega
  obtain ⟨hm1, hPV⟩ := HP1.out hV1
  obtain ⟨m, hm⟩ : ∃ m, bl = m + 1 := ⟨bl - 1, by omega⟩
  obtain ⟨b3, o3, hat, hb3, e30⟩ := HTR.out w5 HB5.out 0 (by omega)
  obtain ⟨b3', o3', hat', _, e31⟩ := HTR.out w5 HB5.out 1 (by omega)
  rw [hat] at hat'
  injection hat' with hat'
  injection hat' with hx1 hx2
  subst hx1
  subst hx2
  subst hat
  rw [Nat.add_zero] at e30
  have HSB : Hid (∀ W, Below w5.heap.size w5 W → W.cell? ⟨b3, o3, none⟩ = some (.int .i64 (zat told 0)) ∧ W.cell? ⟨b3, o3 + 1, none⟩ = some (.int .i64 (zat told 1))) := fun W hW => ⟨(hW.cell (p := ⟨b3, o3, none⟩) hb3).trans e30, (hW.cell (p := ⟨b3, o3 + 1, none⟩) hb3).trans e31⟩
  have HBD : Hid (Below w5.heap.size w5 w5.drew) := (Below.refl _ _).drew
  have k5 : (0 : Int) < (told.length : Int) := by omega
  have k6 : (1 : Int) < (told.length : Int) := by omega
  obtain ⟨f1, f2⟩ := HTF.out.all 0
  obtain ⟨f3, f4⟩ := HTF.out.all 1
  have HAX := hid (fun W => radd_any q (zat told 0) (zat told 1) W h3 h4 f1 f2 f3 f4)
  obtain ⟨PP, hPP⟩ : ∃ PP : Nat → Bool, PP = fun (r : Nat) => decide (atz q told (r : Int) = ptz q (lyt lys i) T (m + 1) z [(r : Int)]) := ⟨_, rfl⟩
  have HPP : Hid (∀ k : Nat, PP k = decide (atz q told (k : Int) = ptv q wide lys inputs (i : Int) z [(k : Int)])) := fun k => by rw [hPP, hPV, hm]
  have HLE : Hid ((zat told 0 + zat told 1) % (q : Int) ≠ E0 → hcn PP q ≤ 2) := fun h => by
    rw [hPP]
    exact hid_part HPR.out h3 (by rw [HTN.out, hm]) h33 (by rw [HE00.out, hm] at h; exact h)
  generalize zat told 0 = X0 at *
  generalize zat told 1 = X1 at *
  generalize (X0 + X1) % (q : Int) = CC at *
  have k7 : 0 < told.length := by omega
  have k8 : 1 < told.length := by omega
  clear hb3 e30 e31 f1 f2 f3 f4 h33 hPP hPV hm HTR HP1
  generalize told.length = N3 at *
  go_wp2_with fail
  refine wp_region_held_drew (S := fun W => W.cell? ⟨b3, o3, none⟩ = some (.int .i64 X0) ∧ W.cell? ⟨b3, o3 + 1, none⟩ = some (.int .i64 X1)) (by kernel_rfl) (HSB.out _ HBD.out) (fun hHeld => ?_)
  refine wpAnyH_takeU (i := 0) (v := .int .i64 (q : Int)) rfl (by kernel_rfl) (by kernel_rfl) (by kernel_rfl) (fun _ _ _ h => h) (by rfl) (fun W hC => by go_simp) hHeld ?_
  simp only [Act.put, List.setIfInBounds_toArray, List.set_cons_zero, List.set_cons_succ]
  refine wpAnyH_takeU (i := 1) (v := .slice (some ⟨b3, o3, none⟩) N3 ct) rfl (by kernel_rfl) (by kernel_rfl) (by kernel_rfl) (fun _ _ _ h => h) (by rfl) (fun W hC => by go_simp) hHeld ?_
  simp only [Act.put, List.setIfInBounds_toArray, List.set_cons_zero, List.set_cons_succ]
  refine wpAnyH_takeU (i := 2) (v := .pointer (some ⟨b3, o3, none⟩)) rfl (by kernel_rfl) (by kernel_rfl) (by kernel_rfl) (fun _ _ _ h => h) (by rfl) (fun W hC => by go_simp) hHeld ?_
  simp only [Act.put, List.setIfInBounds_toArray, List.set_cons_zero, List.set_cons_succ]
  refine wpAnyH_takeU (i := 3) (v := .int .i64 X0) rfl (by kernel_rfl) (by kernel_rfl) (by kernel_rfl) (fun _ _ _ h => h) (by rfl) (fun W hC => by (obtain ⟨x1, x2⟩ := hC); go_simp) hHeld ?_
  simp only [Act.put, List.setIfInBounds_toArray, List.set_cons_zero, List.set_cons_succ]
  refine wpAnyH_takeU (i := 4) (v := .slice (some ⟨b3, o3, none⟩) N3 ct) rfl (by kernel_rfl) (by kernel_rfl) (by kernel_rfl) (fun _ _ _ h => h) (by rfl) (fun W hC => by go_simp) hHeld ?_
  simp only [Act.put, List.setIfInBounds_toArray, List.set_cons_zero, List.set_cons_succ]
  refine wpAnyH_takeU (i := 5) (v := .pointer (some ⟨b3, o3 + 1, none⟩)) rfl (by kernel_rfl) (by kernel_rfl) (by kernel_rfl) (fun _ _ _ h => h) (by rfl) (fun W hC => by go_simp) hHeld ?_
  simp only [Act.put, List.setIfInBounds_toArray, List.set_cons_zero, List.set_cons_succ]
  refine wpAnyH_takeU (i := 6) (v := .int .i64 X1) rfl (by kernel_rfl) (by kernel_rfl) (by kernel_rfl) (fun _ _ _ h => h) (by rfl) (fun W hC => by (obtain ⟨x1, x2⟩ := hC); go_simp) hHeld ?_
  simp only [Act.put, List.setIfInBounds_toArray, List.set_cons_zero, List.set_cons_succ]
  refine wpAnyH_ready (rs := [7]) (by kernel_rfl) (by simp) ?_
  refine AllReadyH.consU rfl (fun K' hK' => ?_) AllReadyH.nil
  go_simp
  refine (HAX.out w5.drew).mono ?_
  rintro e w6 ⟨rfl, hw⟩
  have hw1 := hw.symm
  subst hw1
  clear hw
  refine hK'.out _ _ (HSB.out _ HBD.out) (fun hHeld => ?_)
  clear hK' K'
  refine wpAnyH_ready (rs := [8]) (by kernel_rfl) (by simp) ?_
  refine AllReadyH.consU rfl (fun K' hK' => ?_) AllReadyH.nil
  go_simp
  refine hK'.out _ _ (HSB.out _ HBD.out) (fun hHeld => ?_)
  clear hK' K'
  refine wpAnyH_done (by kernel_rfl) ?_ _
  have HB5d : Hid (Below W0.heap.size W0 w5.drew) := HB5.out.drew
  have HB45d : Hid (Below w4.heap.size w4 w5.drew) := HB45.out.drew
  obtain ⟨d0, d1⟩ := HC.out _ HB5d.out
  clear HSB HBD HAX
  generalize w5.drew = wd at *
  by_cases hc : CC = E0
  case pos =>
    have hcb : (CC != E0) = false := by rw [hc]; simp
    clear hc HLE HPP hV1 HPT hm1
    obtain ⟨hr1, hr2⟩ := HRW.out wd HB45d.out
    have HVR := hid (rvars_any T.length cr ar wd)
    rw [vrs_yes (by omega) HTN.out] at HVR
    have HBN := hid HB5d.out
    have HB4T := hid HB45d.out
    have HT12 : Hid (T.length ≤ 17592186043904) := by have := pow_6 (v := bl) (by omega); unfold Hid; rw [HTN.out]; omega
    obtain ⟨NT, hNT⟩ : ∃ N, N = T.length := ⟨_, rfl⟩
    have HNT := hid hNT
    rw [← hNT] at HVR hr1
    clear hr2 hNT
    go_wp2_with fail
    refine HVR.out.mono ?_
    rintro e w6 ⟨rfl, hw⟩
    have hw1 := hw.symm
    subst hw1
    clear hw HVR
    have hbw : IntKind.i64.wrap ((bl : Int) + 1) = (bl : Int) + 1 := by rw [IntKind.wrap_i64]; omega
    by_cases hs : x.length = bl ∧ y.length = bl ∧ line.length = bl + 1
    case neg =>
      have HE := hid (HBK.out _ HBN.out)
      by_cases s1 : x.length = bl
      · have s1' : ((x.length : Int) != (bl : Int)) = false := by rw [s1]; simp
        by_cases s2 : y.length = bl
        · have s2' : ((y.length : Int) != (bl : Int)) = false := by rw [s2]; simp
          have s3' : ((line.length : Int) != (bl : Int) + 1) = true := by rw [bne_iff_ne]; intro h; exact hs ⟨s1, s2, by omega⟩
          clear s1 s2 hs
          go_wp2_with fail
          go_ret
          exact ⟨rfl, HE.out⟩
        · have s2' : ((y.length : Int) != (bl : Int)) = true := by rw [bne_iff_ne]; omega
          clear s1 s2 hs
          go_wp2_with fail
          go_ret
          exact ⟨rfl, HE.out⟩
      · have s1' : ((x.length : Int) != (bl : Int)) = true := by rw [bne_iff_ne]; omega
        clear s1 hs
        go_wp2_with fail
        go_ret
        exact ⟨rfl, HE.out⟩
    obtain ⟨s1, s2, s5⟩ := hs
    have s1' : ((x.length : Int) != (bl : Int)) = false := by rw [s1]; simp
    have s2' : ((y.length : Int) != (bl : Int)) = false := by rw [s2]; simp
    have s3' : ((line.length : Int) != (bl : Int) + 1) = false := by rw [s5]; simp
    obtain ⟨PF, hPF⟩ : ∃ PF, PF = hdl q T x y line := ⟨_, rfl⟩
    have HSO : Hid (unf PF bl q = false → hcn PF q = q) := fun h => by
      rw [hPF] at h ⊢
      exact line_so HPR.out h3 HTN.out (by omega) s1 s5 (unf_false h)
    have HNO : Hid (unf PF bl q = true → hcn PF q ≤ bl) := fun h => by
      rw [hPF] at h ⊢
      obtain ⟨t0, h0⟩ := unf_true h
      exact line_not HPR.out h3 HTN.out (by omega) s1 s5 h0
    have HPF : Hid (∀ k : Nat, PF k = decide (atz q line (k : Int) = exz q T (onl q x y (k : Int)))) := fun k => by rw [hPF]; rfl
    have HEZ : Hid (∀ k : Nat, exe T (onl q x y (k : Int)) = 0) := fun k => exe_line HTN.out (by omega) s1 _
    have HXL : Hid (∀ k : Nat, (onl q x y (k : Int)).length = x.length) := fun k => ls_len _ _
    have HXF : Hid (∀ k : Nat, Fits (onl q x y (k : Int))) := fun k => onl_fits h3 h4 _ _ _
    have HOXX := hid (fun W (k : Nat) (hk : k < 201) h => HOX.out W (k : Int) ⟨by omega, by omega⟩ (by omega) (by omega) h)
    clear hPF s1 s2 s5 HOX
    go_wp2_with fail
    go_loopw [34, 35, 36, 37, 38, 39, 40] (fun uv hv tv _ _ _ _ wr => ∃ k : Nat, k ≤ q ∧ tv = .int .i64 (k : Int) ∧ uv = .bool (unf PF bl k) ∧ hv = .int .i64 ((hcn PF k : Nat) : Int) ∧ Hid (Below wd.heap.size wd wr)) (fun _ _ tv _ _ _ _ _ => q - (intOf tv).toNat)
    case atStart => exact ⟨0, by omega, rfl, rfl, rfl, Below.refl _ _⟩
    case round =>
      obtain ⟨k, hk, rfl, rfl, rfl, hJ⟩ := hrel
      by_cases hkq : k < q
      · have hkq2 : (k : Int) < (q : Int) := by omega
        have hks : IntKind.i64.wrap ((k : Int) + 1) = (k : Int) + 1 := by rw [IntKind.wrap_i64]; omega
        have hhk := hcn_le PF k
        have HHS : Hid (hcn PF (k + 1) = hcn PF k + (if PF k then 1 else 0)) := rfl
        have HUS : Hid (unf PF bl (k + 1) = (unf PF bl k || (decide (k ≤ bl) && !PF k))) := rfl
        have HBR : Hid (Below W0.heap.size W0 wr) := HBN.out.trans (hJ.out.mono HBN.out.size)
        have HB4R : Hid (Below w4.heap.size w4 wr) := HB4T.out.trans (hJ.out.mono HB4T.out.size)
        have HPK := hid (HPF.out k)
        have HO := hid (HOXX.out wr k (by omega) HBR.out)
        have HJ := hid hJ.out
        have HLX := hid (HXL.out k)
        have HFX := hid (HXF.out k)
        have HEK := hid (HEZ.out k)
        generalize hcn PF k = hc at *
        generalize unf PF bl k = uk at *
        have hhw : IntKind.i64.wrap ((hc : Int) + 1) = (hc : Int) + 1 := by rw [IntKind.wrap_i64]; omega
        obtain ⟨L, hL⟩ : ∃ L, L = onl q x y (k : Int) := ⟨_, rfl⟩
        rw [← hL] at HPK HO HLX HFX HEK
        clear hJ hL
        go_wp2_with fail
        refine HO.out.mono ?_
        rintro e w7 ⟨a7, c7, rfl, hl7, hb7⟩
        have HB7 : Hid (Below W0.heap.size W0 w7) := HBR.out.trans (hb7.mono HBR.out.size)
        have HB47 : Hid (Below w4.heap.size w4 w7) := HB4R.out.trans (hb7.mono HB4R.out.size)
        obtain ⟨hr3, hr4⟩ := HRW.out w7 HB47.out
        have HEC := hid (HEX.out b w7 ar a7 cr c7 T L (HI1.out w7 (HB14.out.trans (HB47.out.mono HB14.out.size))) ⟨HT12.out, HTF2.out, hr4⟩ ⟨by rw [HLX.out]; omega, HFX.out, hl7⟩)
        rw [HEK.out, errz_nil, HLX.out, ← HNT.out] at HEC
        rw [← HNT.out] at hr3
        have HJ7 : Hid (Below wd.heap.size wd w7) := HJ.out.trans (hb7.mono HJ.out.size)
        generalize exz q T L = mz at *
        clear hl7 hb7 hr4
        go_wp2_with fail
        refine HEC.out.mono ?_
        rintro e w8 ⟨rfl, hb8⟩
        have HB8 : Hid (Below W0.heap.size W0 w8) := HB7.out.trans (hb8.mono HB7.out.size)
        have HJ8 : Hid (Below wd.heap.size wd w8) := HJ7.out.trans (hb8.mono HJ7.out.size)
        have HTX := hid (HTL.out w8 (k : Int) ⟨by omega, by omega⟩ HB8.out)
        generalize atz q line (k : Int) = kz at *
        clear hb8 hr3 HEC
        go_wp2_with fail
        refine HTX.out.mono ?_
        rintro e w9 ⟨rfl, hb9⟩
        have HJ9 : Hid (Below wd.heap.size wd w9) := HJ8.out.trans (hb9.mono HJ8.out.size)
        clear hb9 HTX
        by_cases e : kz = mz
        · have e1 : (kz != mz) = false := by rw [e]; simp
          have e2 : (kz == mz) = true := by rw [e]; simp
          have hP1 : PF k = true := by rw [HPK.out]; simp [e]
          rw [hP1] at HHS HUS
          have HH : Hid (hcn PF (k + 1) = hc + 1) := HHS.out
          have HU : Hid (unf PF bl (k + 1) = uk) := by unfold Hid; rw [HUS.out]; simp
          clear e hP1 HPK HHS HUS
          by_cases kb : (k : Int) ≤ (bl : Int)
          all_goals
            go_wp2_with fail
            go_roundw
            case rel => exact ⟨k + 1, by omega, by go_num, by rw [HU.out], by rw [HH.out]; rfl, HJ9.out⟩
            case measure => simp [intOf]; omega
        · have e1 : (kz != mz) = true := by rw [bne_iff_ne]; exact e
          have e2 : (kz == mz) = false := by rw [beq_eq_false_iff_ne]; exact e
          have hP1 : PF k = false := by rw [HPK.out]; simp [e]
          rw [hP1] at HHS HUS
          have HH : Hid (hcn PF (k + 1) = hc) := HHS.out
          by_cases kb : (k : Int) ≤ (bl : Int)
          · have HU : Hid (unf PF bl (k + 1) = true) := by unfold Hid; rw [HUS.out, decide_eq_true (show k ≤ bl by omega)]; simp
            clear e hP1 HPK HHS HUS
            go_wp2_with fail
            go_roundw
            case rel => exact ⟨k + 1, by omega, by go_num, by rw [HU.out], by rw [HH.out], HJ9.out⟩
            case measure => simp [intOf]; omega
          · have HU : Hid (unf PF bl (k + 1) = uk) := by unfold Hid; rw [HUS.out, decide_eq_false (show ¬ k ≤ bl by omega)]; simp
            clear e hP1 HPK HHS HUS
            go_wp2_with fail
            go_roundw
            case rel => exact ⟨k + 1, by omega, by go_num, by rw [HU.out], by rw [HH.out], HJ9.out⟩
            case measure => simp [intOf]; omega
      · obtain rfl : k = q := by omega
        have hkq2 : ¬ (k : Int) < (k : Int) := by omega
        have HE := hid (HBK.out _ (HBN.out.trans (hJ.out.mono HBN.out.size)))
        clear hJ
        by_cases hu : unf PF bl k = true
        · have hle := HNO.out hu
          rw [hu]
          generalize hcn PF k = hc at *
          have hle2 : (hc : Int) ≤ (bl : Int) := by omega
          clear hle hu
          go_wp2_with fail
          go_ret
          exact ⟨rfl, HE.out⟩
        · have hu2 : unf PF bl k = false := by simpa using hu
          have hle := HSO.out hu2
          rw [hu2, hle]
          have hle2 : ((k : Int) == (k : Int)) = true := by simp
          clear hle hu hu2
          go_wp2_with fail
          go_ret
          exact ⟨rfl, HE.out⟩
  have hcb : (CC != E0) = true := by rw [bne_iff_ne]; exact hc
  have hle := HLE.out hc
  have HPX : Hid (∀ (W : World) (k : Nat), k < 201 → Below w4.heap.size w4 W → Calls Tryd.prog 5 #[.pointer (some ⟨b, 0, none⟩), .agg #[.int .i64 wide, .slice aL lys.length cL], .int .i64 (i : Int), .slice ai inputs.length ci, .slice az z.length cz, .slice (some ⟨W.heap.size, 0, none⟩) 1 1] (W.alloc (.cells #[.int .i64 (k : Int)] 3)) fun e w' => e = .returned (.tuple #[.int .i64 (ptv q wide lys inputs (i : Int) z [(k : Int)]), .nilIface]) ∧ Below W.heap.size W w') := fun W k hk hW => by
    have hA : Below W.heap.size W (W.alloc (.cells #[.int .i64 (k : Int)] 3)) := (Below.refl _ _).alloc (Nat.le_refl _) _
    have hWA := hW.trans (hA.mono hW.size)
    have h := HPT.out b _ (some ⟨W.heap.size, 0, none⟩) 1 [(k : Int)] (HI1.out _ (HB14.out.trans (hWA.mono HB14.out.size))) (HB4.out.trans (hWA.mono HB4.out.size)) (fits_one (by omega) (by omega)) (one_lst W (k : Int))
    rw [show [(k : Int)].length = 1 from rfl, hV1, errz_nil] at h
    refine h.mono ?_
    rintro e w' ⟨rfl, hb⟩
    exact ⟨rfl, hA.trans (hb.mono hA.size)⟩
  clear hc HLE HPT hV1 hm1
  go_wp2_with fail
  go_loopw [28, 29, 30, 31, 32] (fun hv rv _ _ _ wr => ∃ k : Nat, k ≤ q ∧ rv = .int .i64 (k : Int) ∧ hv = .int .i64 ((hcn PP k : Nat) : Int) ∧ Hid (Below w4.heap.size w4 wr)) (fun _ rv _ _ _ _ => q - (intOf rv).toNat)
  case atStart => exact ⟨0, by omega, rfl, rfl, HB45d.out⟩
  case round =>
    obtain ⟨k, hk, rfl, rfl, hJ⟩ := hrel
    by_cases hkq : k < q
    · have hkq2 : (k : Int) < (q : Int) := by omega
      have hks : IntKind.i64.wrap ((k : Int) + 1) = (k : Int) + 1 := by rw [IntKind.wrap_i64]; omega
      have hhk := hcn_le PP k
      have HHS : Hid (hcn PP (k + 1) = hcn PP k + (if PP k then 1 else 0)) := rfl
      have HPK := hid (HPP.out k)
      have HX := hid (HPX.out wr k (by omega) hJ.out)
      have HBR : Hid (Below W0.heap.size W0 wr) := HB4.out.trans (hJ.out.mono HB4.out.size)
      have HJ := hid hJ.out
      obtain ⟨d0, d1⟩ := HC.out wr HBR.out
      generalize hcn PP k = hcx at *
      have hhw : IntKind.i64.wrap ((hcx : Int) + 1) = (hcx : Int) + 1 := by rw [IntKind.wrap_i64]; omega
      generalize ptv q wide lys inputs (i : Int) z [(k : Int)] = mz at *
      clear hJ
      go_wp2_with fail
      refine HX.out.mono ?_
      rintro e w7 ⟨rfl, hb7⟩
      have HJ7 : Hid (Below w4.heap.size w4 w7) := HJ.out.trans (hb7.mono HJ.out.size)
      have HTX := hid (HTT.out w7 (k : Int) ⟨by omega, by omega⟩ (HB4.out.trans (HJ7.out.mono HB4.out.size)))
      generalize atz q told (k : Int) = kz at *
      clear hb7 d0 d1
      go_wp2_with fail
      refine HTX.out.mono ?_
      rintro e w9 ⟨rfl, hb9⟩
      have HJ9 : Hid (Below w4.heap.size w4 w9) := HJ7.out.trans (hb9.mono HJ7.out.size)
      clear hb9 HTX
      by_cases e : kz = mz
      · have e2 : (kz == mz) = true := by rw [e]; simp
        have hP1 : PP k = true := by rw [HPK.out]; simp [e]
        rw [hP1] at HHS
        have HH : Hid (hcn PP (k + 1) = hcx + 1) := HHS.out
        clear e hP1 HPK HHS
        go_wp2_with fail
        go_roundw
        case rel => exact ⟨k + 1, by omega, by go_num, by rw [HH.out]; rfl, HJ9.out⟩
        case measure => simp [intOf]; omega
      · have e2 : (kz == mz) = false := by rw [beq_eq_false_iff_ne]; exact e
        have hP1 : PP k = false := by rw [HPK.out]; simp [e]
        rw [hP1] at HHS
        have HH : Hid (hcn PP (k + 1) = hcx) := HHS.out
        clear e hP1 HPK HHS
        go_wp2_with fail
        go_roundw
        case rel => exact ⟨k + 1, by omega, by go_num, by rw [HH.out], HJ9.out⟩
        case measure => simp [intOf]; omega
    · obtain rfl : q = k := by omega
      have hkq2 : ¬ (q : Int) < (q : Int) := by omega
      generalize hcn PP q = hcx at *
      have hle2 : ¬ (2 : Int) < (hcx : Int) := by omega
      obtain ⟨we, rfl⟩ : ∃ we, we = wr := ⟨_, rfl⟩
      have HB4e := hid hJ.out
      have HBe : Hid (Below W0.heap.size W0 we) := HB4.out.trans (hJ.out.mono HB4.out.size)
      clear hJ hle HPX HPP HTT
      obtain ⟨hr1, hr2⟩ := HRW.out we HB4e.out
      have HVR := hid (rvars_any T.length cr ar we)
      rw [vrs_yes (by omega) HTN.out] at HVR
      have HBN := hid HBe.out
      have HB4T := hid HB4e.out
      have HT12 : Hid (T.length ≤ 17592186043904) := by have := pow_6 (v := bl) (by omega); unfold Hid; rw [HTN.out]; omega
      obtain ⟨NT, hNT⟩ : ∃ N, N = T.length := ⟨_, rfl⟩
      have HNT := hid hNT
      rw [← hNT] at HVR hr1
      clear hr2 hNT
      go_wp2_with fail
      refine HVR.out.mono ?_
      rintro e w6 ⟨rfl, hw⟩
      have hw1 := hw.symm
      subst hw1
      clear hw HVR
      have hbw : IntKind.i64.wrap ((bl : Int) + 1) = (bl : Int) + 1 := by rw [IntKind.wrap_i64]; omega
      by_cases hs : x.length = bl ∧ y.length = bl ∧ line.length = bl + 1
      case neg =>
        have HE := hid (HBK.out _ HBN.out)
        by_cases s1 : x.length = bl
        · have s1' : ((x.length : Int) != (bl : Int)) = false := by rw [s1]; simp
          by_cases s2 : y.length = bl
          · have s2' : ((y.length : Int) != (bl : Int)) = false := by rw [s2]; simp
            have s3' : ((line.length : Int) != (bl : Int) + 1) = true := by rw [bne_iff_ne]; intro h; exact hs ⟨s1, s2, by omega⟩
            clear s1 s2 hs
            go_wp2_with fail
            go_ret
            exact ⟨rfl, HE.out⟩
          · have s2' : ((y.length : Int) != (bl : Int)) = true := by rw [bne_iff_ne]; omega
            clear s1 s2 hs
            go_wp2_with fail
            go_ret
            exact ⟨rfl, HE.out⟩
        · have s1' : ((x.length : Int) != (bl : Int)) = true := by rw [bne_iff_ne]; omega
          clear s1 hs
          go_wp2_with fail
          go_ret
          exact ⟨rfl, HE.out⟩
      obtain ⟨s1, s2, s5⟩ := hs
      have s1' : ((x.length : Int) != (bl : Int)) = false := by rw [s1]; simp
      have s2' : ((y.length : Int) != (bl : Int)) = false := by rw [s2]; simp
      have s3' : ((line.length : Int) != (bl : Int) + 1) = false := by rw [s5]; simp
      obtain ⟨PF, hPF⟩ : ∃ PF, PF = hdl q T x y line := ⟨_, rfl⟩
      have HSO : Hid (unf PF bl q = false → hcn PF q = q) := fun h => by
        rw [hPF] at h ⊢
        exact line_so HPR.out h3 HTN.out (by omega) s1 s5 (unf_false h)
      have HNO : Hid (unf PF bl q = true → hcn PF q ≤ bl) := fun h => by
        rw [hPF] at h ⊢
        obtain ⟨t0, h0⟩ := unf_true h
        exact line_not HPR.out h3 HTN.out (by omega) s1 s5 h0
      have HPF : Hid (∀ k : Nat, PF k = decide (atz q line (k : Int) = exz q T (onl q x y (k : Int)))) := fun k => by rw [hPF]; rfl
      have HEZ : Hid (∀ k : Nat, exe T (onl q x y (k : Int)) = 0) := fun k => exe_line HTN.out (by omega) s1 _
      have HXL : Hid (∀ k : Nat, (onl q x y (k : Int)).length = x.length) := fun k => ls_len _ _
      have HXF : Hid (∀ k : Nat, Fits (onl q x y (k : Int))) := fun k => onl_fits h3 h4 _ _ _
      have HOXX := hid (fun W (k : Nat) (hk : k < 201) h => HOX.out W (k : Int) ⟨by omega, by omega⟩ (by omega) (by omega) h)
      clear hPF s1 s2 s5 HOX
      go_wp2_with fail
      go_loopw [34, 35, 36, 37, 38, 39, 40] (fun uv hv tv _ _ _ _ wr => ∃ k : Nat, k ≤ q ∧ tv = .int .i64 (k : Int) ∧ uv = .bool (unf PF bl k) ∧ hv = .int .i64 ((hcn PF k : Nat) : Int) ∧ Hid (Below we.heap.size we wr)) (fun _ _ tv _ _ _ _ _ => q - (intOf tv).toNat)
      case atStart => exact ⟨0, by omega, rfl, rfl, rfl, Below.refl _ _⟩
      case round =>
        obtain ⟨k, hk, rfl, rfl, rfl, hJ⟩ := hrel
        by_cases hkq : k < q
        · have hkq2 : (k : Int) < (q : Int) := by omega
          have hks : IntKind.i64.wrap ((k : Int) + 1) = (k : Int) + 1 := by rw [IntKind.wrap_i64]; omega
          have hhk := hcn_le PF k
          have HHS : Hid (hcn PF (k + 1) = hcn PF k + (if PF k then 1 else 0)) := rfl
          have HUS : Hid (unf PF bl (k + 1) = (unf PF bl k || (decide (k ≤ bl) && !PF k))) := rfl
          have HBR : Hid (Below W0.heap.size W0 wr) := HBN.out.trans (hJ.out.mono HBN.out.size)
          have HB4R : Hid (Below w4.heap.size w4 wr) := HB4T.out.trans (hJ.out.mono HB4T.out.size)
          have HPK := hid (HPF.out k)
          have HO := hid (HOXX.out wr k (by omega) HBR.out)
          have HJ := hid hJ.out
          have HLX := hid (HXL.out k)
          have HFX := hid (HXF.out k)
          have HEK := hid (HEZ.out k)
          generalize hcn PF k = hc at *
          generalize unf PF bl k = uk at *
          have hhw : IntKind.i64.wrap ((hc : Int) + 1) = (hc : Int) + 1 := by rw [IntKind.wrap_i64]; omega
          obtain ⟨L, hL⟩ : ∃ L, L = onl q x y (k : Int) := ⟨_, rfl⟩
          rw [← hL] at HPK HO HLX HFX HEK
          clear hJ hL
          go_wp2_with fail
          refine HO.out.mono ?_
          rintro e w7 ⟨a7, c7, rfl, hl7, hb7⟩
          have HB7 : Hid (Below W0.heap.size W0 w7) := HBR.out.trans (hb7.mono HBR.out.size)
          have HB47 : Hid (Below w4.heap.size w4 w7) := HB4R.out.trans (hb7.mono HB4R.out.size)
          obtain ⟨hr3, hr4⟩ := HRW.out w7 HB47.out
          have HEC := hid (HEX.out b w7 ar a7 cr c7 T L (HI1.out w7 (HB14.out.trans (HB47.out.mono HB14.out.size))) ⟨HT12.out, HTF2.out, hr4⟩ ⟨by rw [HLX.out]; omega, HFX.out, hl7⟩)
          rw [HEK.out, errz_nil, HLX.out, ← HNT.out] at HEC
          rw [← HNT.out] at hr3
          have HJ7 : Hid (Below we.heap.size we w7) := HJ.out.trans (hb7.mono HJ.out.size)
          generalize exz q T L = mz at *
          clear hl7 hb7 hr4
          go_wp2_with fail
          refine HEC.out.mono ?_
          rintro e w8 ⟨rfl, hb8⟩
          have HB8 : Hid (Below W0.heap.size W0 w8) := HB7.out.trans (hb8.mono HB7.out.size)
          have HJ8 : Hid (Below we.heap.size we w8) := HJ7.out.trans (hb8.mono HJ7.out.size)
          have HTX := hid (HTL.out w8 (k : Int) ⟨by omega, by omega⟩ HB8.out)
          generalize atz q line (k : Int) = kz at *
          clear hb8 hr3 HEC
          go_wp2_with fail
          refine HTX.out.mono ?_
          rintro e w9 ⟨rfl, hb9⟩
          have HJ9 : Hid (Below we.heap.size we w9) := HJ8.out.trans (hb9.mono HJ8.out.size)
          clear hb9 HTX
          by_cases e : kz = mz
          · have e1 : (kz != mz) = false := by rw [e]; simp
            have e2 : (kz == mz) = true := by rw [e]; simp
            have hP1 : PF k = true := by rw [HPK.out]; simp [e]
            rw [hP1] at HHS HUS
            have HH : Hid (hcn PF (k + 1) = hc + 1) := HHS.out
            have HU : Hid (unf PF bl (k + 1) = uk) := by unfold Hid; rw [HUS.out]; simp
            clear e hP1 HPK HHS HUS
            by_cases kb : (k : Int) ≤ (bl : Int)
            all_goals
              go_wp2_with fail
              go_roundw
              case rel => exact ⟨k + 1, by omega, by go_num, by rw [HU.out], by rw [HH.out]; rfl, HJ9.out⟩
              case measure => simp [intOf]; omega
          · have e1 : (kz != mz) = true := by rw [bne_iff_ne]; exact e
            have e2 : (kz == mz) = false := by rw [beq_eq_false_iff_ne]; exact e
            have hP1 : PF k = false := by rw [HPK.out]; simp [e]
            rw [hP1] at HHS HUS
            have HH : Hid (hcn PF (k + 1) = hc) := HHS.out
            by_cases kb : (k : Int) ≤ (bl : Int)
            · have HU : Hid (unf PF bl (k + 1) = true) := by unfold Hid; rw [HUS.out, decide_eq_true (show k ≤ bl by omega)]; simp
              clear e hP1 HPK HHS HUS
              go_wp2_with fail
              go_roundw
              case rel => exact ⟨k + 1, by omega, by go_num, by rw [HU.out], by rw [HH.out], HJ9.out⟩
              case measure => simp [intOf]; omega
            · have HU : Hid (unf PF bl (k + 1) = uk) := by unfold Hid; rw [HUS.out, decide_eq_false (show ¬ k ≤ bl by omega)]; simp
              clear e hP1 HPK HHS HUS
              go_wp2_with fail
              go_roundw
              case rel => exact ⟨k + 1, by omega, by go_num, by rw [HU.out], by rw [HH.out], HJ9.out⟩
              case measure => simp [intOf]; omega
        · obtain rfl : k = q := by omega
          have hkq2 : ¬ (k : Int) < (k : Int) := by omega
          have HE := hid (HBK.out _ (HBN.out.trans (hJ.out.mono HBN.out.size)))
          clear hJ
          by_cases hu : unf PF bl k = true
          · have hle := HNO.out hu
            rw [hu]
            generalize hcn PF k = hc at *
            have hle2 : (hc : Int) ≤ (bl : Int) := by omega
            clear hle hu
            go_wp2_with fail
            go_ret
            exact ⟨rfl, HE.out⟩
          · have hu2 : unf PF bl k = false := by simpa using hu
            have hle := HSO.out hu2
            rw [hu2, hle]
            have hle2 : ((k : Int) == (k : Int)) = true := by simp
            clear hle hu hu2
            go_wp2_with fail
            go_ret
            exact ⟨rfl, HE.out⟩

set_option maxRecDepth 100000 in
set_option maxHeartbeats 1000000 in
theorem jcatches_no (p : Int) (cL ci cz ct cx cy cl n m nz nt nx ny nl : Nat) (wide layer : Int) (aL ai az at' ax ay al : Option Addr) (w : World) (hL : Laid w) (hno : ¬ okPrime p) (h1 : -9223372036854775808 ≤ p) (h2 : p ≤ 9223372036854775807) :
    Calls Tryd.prog 3 #[.int .i64 p, .agg #[.int .i64 wide, .slice aL n cL], .int .i64 layer, .slice ai m ci, .slice az nz cz, .slice at' nt ct, .slice ax nx cx, .slice ay ny cy, .slice al nl cl] w fun e w' => e = .returned (.bool true) ∧ Below w.heap.size w w' := by
  obtain ⟨W0, hW0⟩ : ∃ W0, W0 = w.alloc (.cells #[.int .i64 wide, .slice aL n cL] 24) := ⟨_, rfl⟩
  obtain ⟨hb0, hs0, hz0⟩ := own_blk hW0
  have HF := hid (field_no p W0 (hL.below hb0) hno h1 h2)
  have HB0 := hid hb0
  clear hL hno hb0 hs0 hz0 h1 h2
  go_enter Tryd.func3, Tryd.ntmps3
  go_wp2_with fail
  rw [← hW0]
  clear hW0
  refine HF.out.mono ?_
  rintro e w1 ⟨rfl, hb1⟩
  have HE : Hid (Below w.heap.size w w1) := HB0.out.trans (hb1.mono HB0.out.size)
  clear hb1
  go_wp2_with fail
  go_ret
  exact ⟨rfl, HE.out⟩

theorem jcatches_walk (p : Int) (cL ci cz ct cx cy cl : Nat) (wide layer : Int) (aL ai az at' ax ay al : Option Addr) (lys : List (List GatZ)) (inputs z told x y line : List Int) (w : World) (hL : Laid w) (hT : TabAt 2 Lib.deBruijn64tab w) (h1 : -9223372036854775808 ≤ p) (h2 : p ≤ 9223372036854775807) (hB : CirB lys) (hl : LstGG w.heap.size w aL cL lys) (hI : InL w ai ci inputs) (hz : InL w az cz z) (htt : InL w at' ct told) (hx : InL w ax cx x) (hyy : InL w ay cy y) (hll : InL w al cl line) :
    Calls Tryd.prog 3 #[.int .i64 p, .agg #[.int .i64 wide, .slice aL lys.length cL], .int .i64 layer, .slice ai inputs.length ci, .slice az z.length cz, .slice at' told.length ct, .slice ax x.length cx, .slice ay y.length cy, .slice al line.length cl] w fun e w' => e = .returned (.bool true) ∧ Below w.heap.size w w' := by
  by_cases hok : okPrime p
  · obtain ⟨q, rfl⟩ := Int.eq_ofNat_of_zero_le (show 0 ≤ p by have := hok.1; omega)
    obtain ⟨hq3, hq4, hqp⟩ := hok
    rw [Int.toNat_natCast] at hqp
    exact jcatches_good q cL ci cz ct cx cy cl wide layer aL ai az at' ax ay al lys inputs z told x y line w hT (by omega) (by omega) hqp hB hl hI hz htt hx hyy hll
  · exact jcatches_no p cL ci cz ct cx cy cl _ _ _ _ _ _ _ wide layer aL ai az at' ax ay al w hL hok h1 h2

end Go.Proofs.YtaapbopcfpihbabDoor
