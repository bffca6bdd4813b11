/- The law GatesLayer: its walk. -/
import Derived.Test.YtaapbopcfpihbaaDoorGlAM
import Derived.Test.YtaapbopcfpihbaaDoorGlAE
import Derived.Test.YtaapbopcfpihbaaDoorGlAG
import Derived.Test.YtaapbopcfpihbaaDoorLawUTotals
import Derived.Test.YtaapbopcfpihbaaDoorRefs
import Derived.Test.YtaapbopcfpihbaaDoorGlAO
import Derived.Test.YtaapbopcfpihbaaDoorSmgD
namespace Go.Proofs.YtaapbopcfpihbaaDoor
open Go.RowKit

set_option maxRecDepth 100000 in
set_option maxHeartbeats 4000000 in
theorem jlayer_good (q cL ci cz cx : Nat) (wide layer r : Int) (aL ai az ax : Option Addr) (lys : List (List GatZ)) (inputs z xs : List Int) (w : World) (hT : TabAt 2 Lib.deBruijn64tab w) (h3 : 3 ≤ q) (h4 : q ≤ 2147483647) (hpr : Num.Prime q) (hB : CirB lys) (hl : LstGG w.heap.size w aL cL lys) (hI : InL w ai ci inputs) (hz : InL w az cz z) (hx : InL w ax cx xs) (hy : i64B layer) :
    Calls Tryd.prog 5 #[.int .i64 (q : Int), .agg #[.int .i64 wide, .slice aL lys.length cL], .int .i64 layer, .slice ai inputs.length ci, .slice az z.length cz, .slice ax xs.length cx, .int .i64 r] w fun e w' => e = .returned (.bool true) ∧ Below w.heap.size w w' := by
  obtain ⟨W0, hW0⟩ : ∃ W0, W0 = w.alloc (.cells #[.int .i64 wide, .slice aL lys.length cL] 24) := ⟨_, rfl⟩
  obtain ⟨hb0, hs0, hz0⟩ := own_blk hW0
  obtain ⟨G, hG⟩ : ∃ G, G = w.heap.size := ⟨_, rfl⟩
  rw [← hG] at hs0
  have HC : Hid (∀ W, Below W0.heap.size W0 W → W.cell? ⟨G, 0, none⟩ = some (.int .i64 wide) ∧ W.cell? ⟨G, 1, none⟩ = some (.slice aL lys.length cL)) := fun W hW => by
    have e1 := (hW.block G (Array.getElem?_eq_some_iff.1 hs0).1).trans hs0
    exact ⟨by simp [World.cell?, e1], by simp [World.cell?, e1]⟩
  have HBK : Hid (∀ W, Below W0.heap.size W0 W → Below w.heap.size w W) := fun W hW => hb0.trans (hW.mono hb0.size)
  have HFY := hid (field_yes q W0 h3 h4 hpr)
  have HIT : Hid (∀ (b : Nat) (W1 W : World), W1.cell? ⟨b, 0, none⟩ = some (.int .i64 q) → Below W0.heap.size W0 W1 → Below W1.heap.size W1 W → InT q b W) := fun b W1 W h1 h2 h5 => by
    have hw := hb0.trans ((h2.trans (h5.mono h2.size)).mono hb0.size)
    exact ⟨⟨hpr, h3, h4, (h5.cell (p := ⟨b, 0, none⟩) (heap_lt h1)).trans h1⟩, tabu_below hT hw⟩
  have HVA : Hid (∀ (b : Nat) (W : World), InT q b W → Below W0.heap.size W0 W → Calls Tryd.prog 7 #[.pointer (some ⟨b, 0, none⟩), .agg #[.int .i64 wide, .slice aL lys.length cL], .slice ai inputs.length ci] W fun e w' => ∃ v, e = .returned (.tuple #[v, errz (vle wide lys inputs.length)]) ∧ OwnR W.heap.size w' v (gvr q wide lys inputs) ∧ Below W.heap.size W w') := fun b W h1 h2 => by
    have hw := hb0.trans (h2.mono hb0.size)
    exact gatesValues_any q b cL ci wide aL ai lys inputs W h1 hB (hl.step hw) ((hI.below hw).lst) hI.fit
  have HPT : Hid (∀ (b : Nat) (W : World) (a : Option Addr) (c : Nat) (l : List Int), InT q b W → Below W0.heap.size W0 W → Fits l → Lst W.heap.size W a c l → Calls Tryd.prog 16 #[.pointer (some ⟨b, 0, none⟩), .agg #[.int .i64 wide, .slice aL lys.length cL], .int .i64 layer, .slice ai inputs.length ci, .slice az z.length cz, .slice a l.length c] W fun e w' => e = .returned (.tuple #[.int .i64 (ptv q wide lys inputs layer z l), errz (pte wide lys inputs.length layer z.length l.length)]) ∧ Below W.heap.size W w') := fun b W a c l h1 h2 h5 h6 => by
    have hw := hb0.trans (h2.mono hb0.size)
    exact part_all q b cL ci cz c wide layer aL ai az a lys inputs z l W h1 hB (hl.step hw) ((hI.below hw).lst) hI.fit hz.fit h5 (hz.below hw).lst.row h6
  have HEX : Hid (∀ (b : Nat) (W : World) (a : Option Addr) (c : Nat) (l : List Int), InT q b W → Below W0.heap.size W0 W → InL W a c l → Calls Tryd.prog 18 #[.pointer (some ⟨b, 0, none⟩), .slice a l.length c, .slice az z.length cz] W fun e w' => e = .returned (.tuple #[.int .i64 (exz q l z), errz (exe l z)]) ∧ Below W.heap.size W w') := fun b W a c l h1 h2 h5 =>
    ext_as q b c cz a az l z W h1 h5 (hz.below (hb0.trans (h2.mono hb0.size)))
  have HXL : Hid (∀ W, Below W0.heap.size W0 W → Lst W.heap.size W ax cx xs) := fun W h2 => (hx.below (hb0.trans (h2.mono hb0.size))).lst
  have HADD : Hid (∀ (u v : Int) (W : World), (0 ≤ u ∧ u < q) → (0 ≤ v ∧ v < q) → Calls Tryd.prog 19 #[.int .i64 (q : Int), .int .i64 u, .int .i64 v] W fun e w' => e = .returned (.int .i64 ((u + v) % (q : Int))) ∧ w' = W) := fun u v W h1 h2 => radd_any q u v W h3 h4 (by omega) (by omega) (by omega) (by omega)
  have HON : Hid (∀ (b : Nat) (W : World), InT q b W → Calls Tryd.prog 7 #[.pointer (some ⟨b, 0, none⟩), .agg #[.int .i64 0, .slice (some ⟨W.heap.size + 1, 0, none⟩) 1 1], .slice (some ⟨W.heap.size + 1 + 1, 0, none⟩) 1 1] (((W.alloc (.cells #[.int .i64 1, .int .i64 0, .int .i64 0] 49)).alloc (.cells #[.slice (some ⟨W.heap.size, 0, none⟩) 1 1] 41)).alloc (.cells #[.int .i64 1] 3)) fun e w' => ∃ b2 o2 c2 b3 o3 c3, e = .returned (.tuple #[.slice (some ⟨b2, o2, none⟩) 2 c2, .nilIface]) ∧ w'.cell? ⟨b2, o2 + 1, none⟩ = some (.slice (some ⟨b3, o3, none⟩) 1 c3) ∧ w'.cell? ⟨b3, o3, none⟩ = some (.int .i64 1) ∧ Below W.heap.size W w') := fun b W h => one_values q b W h
  have HB0 := hid hb0
  have HWG := hid hW0
  have HG := hid hG
  have hlen := hB.len
  have hilen := hI.len
  have hzlen := hz.len
  have hxlen := hx.len
  have HFX := hid hx.fit
  obtain ⟨c0, c1⟩ := HC.out W0 (Below.refl _ _)
  clear hT hpr hB hl hI hW0 hb0 hs0 hz0 hG hz hx
  go_enter Tryd.func5, Tryd.ntmps5
  go_wp2_with fail
  rw [← HWG.out, ← HG.out]
  clear HWG
  refine HFY.out.mono ?_
  rintro e w1 ⟨rfl, hc1, hb1, hlt1⟩
  have HI1 := hid (fun W h => HIT.out W0.heap.size w1 W hc1 hb1 h)
  have HB1 := hid hb1
  obtain ⟨d0, d1⟩ := HC.out w1 hb1
  generalize W0.heap.size = b at HI1 ⊢
  clear hc1 hb1 hlt1 c0 c1
  go_wp2_with fail
  refine (HON.out b w1 (HI1.out w1 (Below.refl _ _))).mono ?_
  rintro e w2 ⟨b2, o2, c2, b3, o3, c3, rfl, e3, e4, hb2⟩
  have HB12 := hid hb2
  have HB2 : Hid (Below W0.heap.size W0 w2) := HB1.out.trans (hb2.mono HB1.out.size)
  obtain ⟨d0, d1⟩ := HC.out w2 HB2.out
  clear hb2
  go_wp2_with fail
  refine (HVA.out b w2 (HI1.out w2 HB12.out) HB2.out).mono ?_
  rintro e w3 ⟨v3, rfl, ho3, hb3⟩
  have HB13 : Hid (Below w1.heap.size w1 w3) := HB12.out.trans (hb3.mono HB12.out.size)
  have HB3 : Hid (Below W0.heap.size W0 w3) := HB2.out.trans (hb3.mono HB2.out.size)
  obtain ⟨d0, d1⟩ := HC.out w3 HB3.out
  clear hb3 e3 e4
  by_cases hV : vle wide lys inputs.length = 0
  case neg =>
    rw [errz_some hV]
    generalize vle wide lys inputs.length = V at *
    have HE := hid (HBK.out _ HB3.out)
    clear ho3
    go_wp2_with fail
    go_ret
    exact ⟨rfl, HE.out⟩
  rw [hV, errz_nil]
  have HG3 : gvr q wide lys inputs = gva q lys inputs (lys.length + 1) := by unfold gvr; rw [if_pos hV]
  rw [HG3] at ho3
  obtain ⟨a3, c3, rfl, hLR⟩ := ho3.lst
  have HFZ := hid (vle_zero hV)
  have HYL : Hid ((gva q lys inputs (lys.length + 1)).length = lys.length + 1) := gva_len _ _ _ _
  have HYR : Hid (∀ i, i < lys.length + 1 → rat (gva q lys inputs (lys.length + 1)) i = gvs q lys inputs i) := fun i hi => gva_rat hi
  have HLR := hid hLR
  have HYN : Hid (∃ N, N = (gva q lys inputs (lys.length + 1)).length) := ⟨_, rfl⟩
  obtain ⟨N3, hN3⟩ := HYN.out
  have HN3 : Hid (N3 = lys.length + 1) := by rw [Hid, hN3]; exact HYL.out
  rw [← hN3]
  clear ho3 hLR HG3 HYN hN3
  go_wp2_with fail
  refine (HPT.out b w3 none 0 [] (HI1.out w3 HB13.out) HB3.out (fun j hj => by simp at hj) (Lst.none _ _)).mono ?_
  rintro e w4 ⟨rfl, hb4⟩
  have HB34 := hid hb4
  have HB14 : Hid (Below w1.heap.size w1 w4) := HB13.out.trans (hb4.mono HB13.out.size)
  have HB4 : Hid (Below W0.heap.size W0 w4) := HB3.out.trans (hb4.mono HB3.out.size)
  obtain ⟨d0, d1⟩ := HC.out w4 HB4.out
  clear hb4
  rw [show ([] : List Int).length = 0 from rfl]
  by_cases hP : pte wide lys inputs.length layer z.length 0 = 0
  case neg =>
    rw [errz_some hP]
    generalize pte wide lys inputs.length layer z.length 0 = V at *
    have HE := hid (HBK.out _ HB4.out)
    go_wp2_with fail
    go_ret
    exact ⟨rfl, HE.out⟩
  rw [hP, errz_nil]
  obtain ⟨_, ⟨hl0, hl1⟩, hzz, _⟩ := pte_zero hP
  obtain ⟨i, rfl⟩ := Int.eq_ofNat_of_zero_le hl0
  rw [Int.toNat_natCast] at hzz
  have hi : i < lys.length := by omega
  obtain ⟨o1', o2'⟩ := HFZ.out.1.own hi
  obtain ⟨_, o4'⟩ := HFZ.out.1.bn (i := i + 1) (by omega)
  obtain ⟨_, o3'⟩ := HFZ.out.1.bn (i := i) (by omega)
  have hn8 := HFZ.out.1.2.1.2
  have HTL : Hid ((gvs q lys inputs i).length = 2 ^ bnn wide lys i) := gvs_len HFZ.out.1 HFZ.out.2.2 (by omega)
  have HTJ : Hid ((gvs q lys inputs (i + 1)).length = 2 ^ z.length) := by unfold Hid; rw [gvs_len HFZ.out.1 HFZ.out.2.2 (by omega), hzz]
  have HVE : Hid (ptv q wide lys inputs (i : Int) z [] = exz q (gvs q lys inputs (i + 1)) z) := by
    have h := ptz_nil (p := q) (n := bnn wide lys i) (gs := lyt lys i) (t := gvs q lys inputs i) (z := z) (by rw [o1', hzz]) (fun k hk => by
      obtain ⟨_, ⟨g2, g3⟩, g4, g5⟩ := HFZ.out.2.1 i hi k hk
      unfold bnn
      omega)
    unfold Hid ptv exz
    rw [show ([] : List Int).length = 0 from rfl, if_pos hP, Int.toNat_natCast, h, if_pos (vrs_yes (by omega) HTJ.out)]
    rfl
  have HEE : Hid (exe (gvs q lys inputs (i + 1)) z = 0) := by unfold Hid exe; rw [if_pos (vrs_yes (by omega) HTJ.out)]
  obtain ⟨j, hj⟩ : ∃ j, j = i + 1 := ⟨_, rfl⟩
  obtain ⟨b5, o5, ar, cr, rfl, hb5, hr1, hr2⟩ := HLR.out.row j (by rw [HYL.out]; omega)
  rw [HYR.out j (by omega)] at hr1 hr2
  rw [← hj] at HVE HEE HTJ
  have hr1' := (HB34.out.cell (p := ⟨b5, o5 + j, none⟩) hb5).trans hr1
  have k1 : ¬ (i : Int) < 0 := by omega
  have hks : IntKind.i64.wrap ((i : Int) + 1) = (j : Int) := by rw [IntKind.wrap_i64]; omega
  have k2 : (j : Int) < (N3 : Int) := by rw [HN3.out]; omega
  have hp6 := pow_6 (v := z.length) (by omega)
  have HEC := hid (HEX.out b w4 ar cr (gvs q lys inputs j) (HI1.out w4 HB14.out) HB4.out ⟨by rw [HTJ.out]; omega, gvs_fits h3 h4 _ _ _, (hr2.below HB34.out).mono HB34.out.size⟩)
  rw [HEE.out, errz_nil, ← HVE.out] at HEC
  generalize (gvs q lys inputs j).length = NT at *
  have HPV : Hid (∀ l, 0 ≤ ptv q wide lys inputs (i : Int) z l ∧ ptv q wide lys inputs (i : Int) z l < q) := fun l => ptv_bounds h3 wide lys inputs (i : Int) z l
  generalize ptv q wide lys inputs (i : Int) z [] = E0 at *
  have hE0 : (E0 != E0) = false := by simp
  have HI := hid hi
  have HBN := hid o3'
  clear hr1 hr2 hb5 HLR HYR HYL HVE HEE HTJ hj HN3 hl0 hl1 hzz hP o1' o2' o4' o3' hi hn8 hp6 hV HVA HON HFY
  go_wp2_with fail
  refine HEC.out.mono ?_
  rintro e w5 ⟨rfl, hb5⟩
  have HB15 : Hid (Below w1.heap.size w1 w5) := HB14.out.trans (hb5.mono HB14.out.size)
  have HB5 : Hid (Below W0.heap.size W0 w5) := HB4.out.trans (hb5.mono HB4.out.size)
  obtain ⟨d0, d1⟩ := HC.out w5 HB5.out
  clear hb5 HEC hr1'
  go_wp2_with fail
  refine (HPT.out b w5 ax cx xs (HI1.out w5 HB15.out) HB5.out HFX.out (HXL.out w5 HB5.out)).mono ?_
  rintro e w6 ⟨rfl, hb6⟩
  have HB16 : Hid (Below w1.heap.size w1 w6) := HB15.out.trans (hb6.mono HB15.out.size)
  have HB6 : Hid (Below W0.heap.size W0 w6) := HB5.out.trans (hb6.mono HB5.out.size)
  obtain ⟨d0, d1⟩ := HC.out w6 HB6.out
  clear hb6
  by_cases hX : pte wide lys inputs.length (i : Int) z.length xs.length = 0
  case neg =>
    rw [errz_some hX]
    generalize pte wide lys inputs.length (i : Int) z.length xs.length = V at *
    generalize ptv q wide lys inputs (i : Int) z xs = E1 at *
    have HE := hid (HBK.out _ HB6.out)
    go_wp2_with fail
    go_ret
    exact ⟨rfl, HE.out⟩
  rw [hX, errz_nil]
  have HSUM : Hid (pte wide lys inputs.length (i : Int) z.length (xs.length + 1) = 0 → ptv q wide lys inputs (i : Int) z xs = (ptv q wide lys inputs (i : Int) z (xs ++ [0]) + ptv q wide lys inputs (i : Int) z (xs ++ [1])) % (q : Int)) := fun h => by
    obtain ⟨_, _, _, hh⟩ := pte_zero h
    rw [Int.toNat_natCast] at hh
    have h0 : pte wide lys inputs.length (i : Int) z.length (xs ++ [0]).length = 0 := by rw [List.length_append]; exact h
    have h1 : pte wide lys inputs.length (i : Int) z.length (xs ++ [1]).length = 0 := by rw [List.length_append]; exact h
    unfold ptv
    rw [if_pos hX, if_pos h0, if_pos h1, Int.toNat_natCast]
    exact ptz_two HTL.out hh
  have HF0 : Hid (Fits (xs ++ [0]) ∧ Fits (xs ++ [1])) := by
    have : ∀ b : Int, 0 ≤ b → b ≤ 1 → Fits (xs ++ [b]) := fun b h1 h2 j hj => by
      rw [List.length_append] at hj
      by_cases e : j < xs.length
      · rw [zat_app_lo e]; exact HFX.out j e
      · obtain rfl : j = xs.length := by simp at hj; omega
        rw [zat_app_at]; omega
    exact ⟨this 0 (by omega) (by omega), this 1 (by omega) (by omega)⟩
  obtain ⟨u0, hu0⟩ : ∃ u, u = ptv q wide lys inputs (i : Int) z (xs ++ [0]) := ⟨_, rfl⟩
  obtain ⟨u1, hu1⟩ : ∃ u, u = ptv q wide lys inputs (i : Int) z (xs ++ [1]) := ⟨_, rfl⟩
  have q0 := HPV.out (xs ++ [0])
  have q1 := HPV.out (xs ++ [1])
  obtain ⟨NX, hNX⟩ : ∃ N, N = xs.length + 1 := ⟨_, rfl⟩
  have HL0 : Hid ((xs ++ [0]).length = NX ∧ (xs ++ [1]).length = NX) := ⟨by rw [hNX]; simp, by rw [hNX]; simp⟩
  have HP0 : Hid (∀ (W : World) (a : Option Addr) (c : Nat), InT q b W → Below W0.heap.size W0 W → Lst W.heap.size W a c (xs ++ [0]) → Calls Tryd.prog 16 #[.pointer (some ⟨b, 0, none⟩), .agg #[.int .i64 wide, .slice aL lys.length cL], .int .i64 (i : Int), .slice ai inputs.length ci, .slice az z.length cz, .slice a NX c] W fun e w' => e = .returned (.tuple #[.int .i64 u0, errz (pte wide lys inputs.length (i : Int) z.length NX)]) ∧ Below W.heap.size W w') := fun W a c h1 h2 h5 => by
    have := HPT.out b W a c (xs ++ [0]) h1 h2 HF0.out.1 h5
    rwa [HL0.out.1, ← hu0] at this
  have HP1 : Hid (∀ (W : World) (a : Option Addr) (c : Nat), InT q b W → Below W0.heap.size W0 W → Lst W.heap.size W a c (xs ++ [1]) → Calls Tryd.prog 16 #[.pointer (some ⟨b, 0, none⟩), .agg #[.int .i64 wide, .slice aL lys.length cL], .int .i64 (i : Int), .slice ai inputs.length ci, .slice az z.length cz, .slice a NX c] W fun e w' => e = .returned (.tuple #[.int .i64 u1, errz (pte wide lys inputs.length (i : Int) z.length NX)]) ∧ Below W.heap.size W w') := fun W a c h1 h2 h5 => by
    have := HPT.out b W a c (xs ++ [1]) h1 h2 HF0.out.2 h5
    rwa [HL0.out.2, ← hu1] at this
  rw [← hu0, ← hu1, ← hNX] at HSUM
  rw [← hu0] at q0
  rw [← hu1] at q1
  have HAX := hid (fun W => HADD.out u0 u1 W q0 q1)
  generalize ptv q wide lys inputs (i : Int) z xs = E1 at *
  generalize pte wide lys inputs.length (i : Int) z.length NX = V at *
  generalize inputs.length = ni at *
  generalize z.length = nz at *
  have HO7 : Hid ((w6.alloc (.cells #[] 3)).ownsRow w6.heap.size 3 1 (.slice (some ⟨w6.heap.size, 0, none⟩) 0 0) ([] : List Int).length (([] : List Int).map (Value.int .i64))) := World.ownsRow_made (size := 1) w6 #[] 0 (Nat.le_refl _) (by unfold maxLen; omega) (by simp)
  have HBA7 : Hid (Below w6.heap.size w6 (w6.alloc (.cells #[] 3))) := (Below.refl _ _).alloc (Nat.le_refl _) _
  have HL7 : Hid (Lst w6.heap.size (w6.alloc (.cells #[] 3)) ax cx xs) := (HXL.out w6 HB6.out).below HBA7.out
  clear hX HPT HEX HADD hu0 hu1 q0 q1 hNX HTL HFZ HPV HFX HF0 hE0 HI HBN
  go_wp2_with (at_builtin; refine wpList_appendL (w6.alloc (.cells #[] 3)) w6.heap.size w6.heap.size rfl _ _ rfl _ rfl [] xs HO7.out ax cx rfl (by simp; omega) HBA7.out.size HL7.out ?_)
  intro v7 w7 ho7 hb7
  have HO7b := hid ho7
  have HB67 : Hid (Below w6.heap.size w6 w7) := HBA7.out.trans hb7
  have HB7 : Hid (Below W0.heap.size W0 w7) := HB6.out.trans (HB67.out.mono HB6.out.size)
  have HO8 : Hid ((w7.alloc (.cells #[] 3)).ownsRow w7.heap.size 3 1 (.slice (some ⟨w7.heap.size, 0, none⟩) 0 0) ([] : List Int).length (([] : List Int).map (Value.int .i64))) := World.ownsRow_made (size := 1) w7 #[] 0 (Nat.le_refl _) (by unfold maxLen; omega) (by simp)
  have HBA8 : Hid (Below w7.heap.size w7 (w7.alloc (.cells #[] 3))) := (Below.refl _ _).alloc (Nat.le_refl _) _
  have HL8 : Hid (Lst w7.heap.size (w7.alloc (.cells #[] 3)) ax cx xs) := (HXL.out w7 HB7.out).below HBA8.out
  clear ho7 hb7 HO7 HBA7 HL7 d0 d1
  go_wp2_with (at_builtin; refine wpList_appendL (w7.alloc (.cells #[] 3)) w7.heap.size w7.heap.size rfl _ _ rfl _ rfl [] xs HO8.out ax cx rfl (by simp; omega) HBA8.out.size HL8.out ?_)
  intro v8 w8 ho8 hb8
  have HO8b := hid ho8
  have HB78 : Hid (Below w7.heap.size w7 w8) := HBA8.out.trans hb8
  have HO7c := hid (own_step HO7b.out HB78.out)
  have HB68 : Hid (Below w6.heap.size w6 w8) := HB67.out.trans (HB78.out.mono HB67.out.size)
  have HC9 : Hid ((w8.alloc (.cells #[.int .i64 0] 3)).cell? ⟨w8.heap.size, 0, none⟩ = some (.int .i64 0)) := by unfold Hid; simp
  have HS9 : Hid (w6.heap.size ≤ (w8.alloc (.cells #[.int .i64 0] 3)).heap.size) := by have := HB68.out.size; unfold Hid; simp; omega
  clear ho8 hb8 HO8 HBA8 HL8
  go_wp2_with (at_builtin; refine wpList_append1 (w8.alloc (.cells #[.int .i64 0] 3)) w6.heap.size w8.heap.size 0 rfl _ _ rfl v7 rfl xs (HO7c.out.alloc _) rfl HC9.out (by omega) HS9.out ?_)
  intro v9 w9 ho9 hg9 hat9 hb9
  have HO9 : Hid (w9.ownsRow w6.heap.size 3 1 v9 (xs ++ [0]).length ((xs ++ [0]).map (Value.int .i64))) := by
    unfold Hid
    rw [List.length_append, List.map_append]
    exact ho9
  have HO8c : Hid (w9.ownsRow w7.heap.size 3 1 v8 xs.length (xs.map (Value.int .i64))) := (HO8b.out.alloc _).kept hg9 (by
    cases e : v8.ownBlock with
    | none => exact .inl rfl
    | some k8 =>
      refine .inr (fun h => ?_)
      have x1 := HO8b.out.lt k8 e
      have x2 := HO7b.out.lt k8 h.symm
      omega)
  have HAP : Hid (v9.ownBlock = none ∨ v9.ownBlock ≠ v8.ownBlock) := by
    cases e : v9.ownBlock with
    | none => exact .inl rfl
    | some k9 =>
      refine .inr (fun h => ?_)
      have x1 := HO8b.out.lt k9 h.symm
      rcases hat9 with h2 | h2
      · have x2 := HO7b.out.lt k9 (by rw [← h2, e])
        omega
      · rw [e] at h2
        injection h2 with h2
        have h5 : (w8.alloc (.cells #[.int .i64 0] 3)).heap.size = w8.heap.size + 1 := by simp
        omega
  have HB69 : Hid (Below w6.heap.size w6 w9) := (HB68.out.alloc HB68.out.size _).trans hb9
  have HS10 : Hid (w7.heap.size ≤ (w9.alloc (.cells #[.int .i64 1] 3)).heap.size) := by have := hg9.size; have := HB78.out.size; unfold Hid; simp at *; omega
  have HC10 : Hid ((w9.alloc (.cells #[.int .i64 1] 3)).cell? ⟨w9.heap.size, 0, none⟩ = some (.int .i64 1)) := by unfold Hid; simp
  clear ho9 hg9 hat9 hb9 HO7b HO7c HO8b HC9 HS9
  go_wp2_with (at_builtin; refine wpList_append1 (w9.alloc (.cells #[.int .i64 1] 3)) w7.heap.size w9.heap.size 1 rfl _ _ rfl v8 rfl xs (HO8c.out.alloc _) rfl HC10.out (by omega) HS10.out ?_)
  intro v10 w10 ho10 hg10 hat10 hb10
  have ho10' : w10.ownsRow w7.heap.size 3 1 v10 (xs ++ [1]).length ((xs ++ [1]).map (Value.int .i64)) := by
    rw [List.length_append, List.map_append]
    exact ho10
  have ho9' := (HO9.out.alloc (.cells #[.int .i64 1] 3)).kept hg10 HAP.out
  obtain ⟨a9, c9, hv9, hl9⟩ := lst_of_owns ho9'
  obtain ⟨a10, c10, hv10, hl10⟩ := lst_of_owns ho10'
  rw [HL0.out.1] at hv9
  rw [HL0.out.2] at hv10
  subst hv9
  subst hv10
  have HB610 : Hid (Below w6.heap.size w6 w10) := (HB69.out.alloc HB69.out.size _).trans (hb10.mono HB67.out.size)
  have HB110 : Hid (Below w1.heap.size w1 w10) := HB16.out.trans (HB610.out.mono HB16.out.size)
  have HB10 : Hid (Below W0.heap.size W0 w10) := HB6.out.trans (HB610.out.mono HB6.out.size)
  obtain ⟨d0, d1⟩ := HC.out w10 HB10.out
  have HLA := hid hl9
  have HLB := hid hl10
  clear ho10 ho10' hg10 hat10 hb10 ho9' hl9 hl10 HO9 HO8c HAP HS10 HC10
  go_wp2_with fail
  refine (HP0.out w10 a9 c9 (HI1.out w10 HB110.out) HB10.out HLA.out).mono ?_
  rintro e w11 ⟨rfl, hb11⟩
  have HB111 : Hid (Below w1.heap.size w1 w11) := HB110.out.trans (hb11.mono HB110.out.size)
  have HB11 : Hid (Below W0.heap.size W0 w11) := HB10.out.trans (hb11.mono HB10.out.size)
  have HLC := hid ((HLB.out.below hb11).mono hb11.size)
  obtain ⟨d0, d1⟩ := HC.out w11 HB11.out
  clear hb11 HLB HLA
  by_cases hN : V = 0
  · rw [hN, errz_nil]
    have HP1' := hid (HP1.out w11 a10 c10 (HI1.out w11 HB111.out) HB11.out HLC.out)
    rw [hN, errz_nil] at HP1'
    have hEq := HSUM.out hN
    have hEb : (E1 == (u0 + u1) % (q : Int)) = true := by rw [hEq]; simp
    clear hEq HSUM HP1
    generalize (u0 + u1) % (q : Int) = S at *
    go_wp2_with fail
    refine HP1'.out.mono ?_
    rintro e w12 ⟨rfl, hb12⟩
    have HE := hid (HBK.out _ (HB11.out.trans (hb12.mono HB11.out.size)))
    clear hb12
    go_wp2_with fail
    refine (HAX.out w12).mono ?_
    rintro e w13 ⟨rfl, hw⟩
    have hw1 := hw.symm
    subst hw1
    clear hw
    go_wp2_with fail
    go_ret
    exact ⟨by simp, HE.out⟩
  · rw [errz_some hN]
    have HP1' := hid (HP1.out w11 a10 c10 (HI1.out w11 HB111.out) HB11.out HLC.out)
    rw [errz_some hN] at HP1'
    clear HSUM HP1 hN
    go_wp2_with fail
    refine HP1'.out.mono ?_
    rintro e w12 ⟨rfl, hb12⟩
    have HE := hid (HBK.out _ (HB11.out.trans (hb12.mono HB11.out.size)))
    clear hb12
    go_wp2_with fail
    go_ret
    exact ⟨rfl, HE.out⟩

set_option maxRecDepth 100000 in
set_option maxHeartbeats 1000000 in
theorem jlayer_no (p : Int) (cL ci cz cx n m nz nx : Nat) (wide layer r : Int) (aL ai az ax : Option Addr) (w : World) (hL : Laid w) (hno : ¬ okPrime p) (h1 : -9223372036854775808 ≤ p) (h2 : p ≤ 9223372036854775807) :
    Calls Tryd.prog 5 #[.int .i64 p, .agg #[.int .i64 wide, .slice aL n cL], .int .i64 layer, .slice ai m ci, .slice az nz cz, .slice ax nx cx, .int .i64 r] w fun e w' => e = .returned (.bool true) ∧ Below w.heap.size w w' := by
  obtain ⟨W0, hW0⟩ : ∃ W0, W0 = w.alloc (.cells #[.int .i64 wide, .slice aL n cL] 24) := ⟨_, rfl⟩
  obtain ⟨hb0, hs0, hz0⟩ := own_blk hW0
  have HF := hid (field_no p W0 (hL.below hb0) hno h1 h2)
  have HB0 := hid hb0
  clear hL hno hb0 hs0 hz0 h1 h2
  go_enter Tryd.func5, Tryd.ntmps5
  go_wp2_with fail
  rw [← hW0]
  clear hW0
  refine HF.out.mono ?_
  rintro e w1 ⟨rfl, hb1⟩
  have HE : Hid (Below w.heap.size w w1) := HB0.out.trans (hb1.mono HB0.out.size)
  clear hb1
  go_wp2_with fail
  go_ret
  exact ⟨rfl, HE.out⟩

theorem jlayer_walk (p : Int) (cL ci cz cx : Nat) (wide layer r : Int) (aL ai az ax : Option Addr) (lys : List (List GatZ)) (inputs z xs : List Int) (w : World) (hL : Laid w) (hT : TabAt 2 Lib.deBruijn64tab w) (h1 : -9223372036854775808 ≤ p) (h2 : p ≤ 9223372036854775807) (hy : i64B layer) (hB : CirB lys) (hl : LstGG w.heap.size w aL cL lys) (hI : InL w ai ci inputs) (hz : InL w az cz z) (hx : InL w ax cx xs) :
    Calls Tryd.prog 5 #[.int .i64 p, .agg #[.int .i64 wide, .slice aL lys.length cL], .int .i64 layer, .slice ai inputs.length ci, .slice az z.length cz, .slice ax xs.length cx, .int .i64 r] w fun e w' => e = .returned (.bool true) ∧ Below w.heap.size w w' := by
  by_cases hok : okPrime p
  · obtain ⟨q, rfl⟩ := Int.eq_ofNat_of_zero_le (show 0 ≤ p by have := hok.1; omega)
    obtain ⟨hq3, hq4, hqp⟩ := hok
    rw [Int.toNat_natCast] at hqp
    exact jlayer_good q cL ci cz cx wide layer r aL ai az ax lys inputs z xs w hT (by omega) (by omega) hqp hB hl hI hz hx hy
  · exact jlayer_no p cL ci cz cx _ _ _ _ wide layer r aL ai az ax w hL hok h1 h2

end Go.Proofs.YtaapbopcfpihbaaDoor
