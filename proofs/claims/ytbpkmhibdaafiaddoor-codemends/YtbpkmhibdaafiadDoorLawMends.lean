/- The law CodeMends answers true: what was spoilt at few places is found again. -/
import Derived.Test.YtbpkmhibdaafiadDoorLawDecodes
namespace Go.Proofs.YtbpkmhibdaafiadDoor
open Go.RowKit

/-- append([]int{}, l...) of a list that is not empty lies in a block of its own -/
theorem wpList_copyR {ops : Array Oper} {rest : List Oper} {o : Oper} {act : Act} {Q : Exit → Act → World → Prop} (w1 : World) (hgd : o.guard = none) (s x : Operand)
    (ho : o.op = .call { callee := .builtin .append, args := #[s, x], argTypes := #[22, 22] })
    (hs : act.eval s = .slice (some ⟨w1.heap.size, 0, none⟩) 0 0) (ad : Addr) (cap : Nat) (zs : List Int) (hx : act.eval x = .slice (some ad) zs.length cap)
    (hlen : zs.length ≤ 17592186044416) (h0 : 0 < zs.length) (hl : RowB w1.heap.size w1 (some ad) zs)
    (h : ∀ (g M : Nat) (F : Nat → Value) (w2 : World), w1.heap.size ≤ g → w2.rowIs g 3 M F → zs.length ≤ M → (∀ j, j < zs.length → F j = .int .i64 (zat zs j)) → Below w1.heap.size w1 w2 → wpList Tryd.prog ops Q rest (act.put o.dst (.slice (some ⟨g, 0, none⟩) zs.length M)) w2) :
    wpList Tryd.prog ops Q (o :: rest) act (w1.alloc (.cells #[] 3)) := by
  obtain ⟨i0, hi, hz0, hz1, hz2⟩ := info_parts Tryd.infoInt
  have hown : (w1.alloc (.cells #[] 3)).ownsRow w1.heap.size 3 1 (.slice (some ⟨w1.heap.size, 0, none⟩) 0 0) 0 [] := World.ownsRow_made (size := 1) w1 #[] 0 (Nat.le_refl _) (by unfold maxLen; omega) (by simp)
  have hb0 : Below w1.heap.size w1 (w1.alloc (.cells #[] 3)) := (Below.refl _ _).alloc (Nat.le_refl _) _
  refine wpList_append_own _ hgd s x 22 ho w1.heap.size 3 i0 (.int .i64 0) 1 8 Tryd.underlying22 hi hz0 hz1 hz2 rfl (by decide) _ _ _ hs hown ad zs.length cap (zs.map (Value.int .i64)) hx (by simp) ?_ ?_ (by unfold maxLen; omega) (by omega) (by simp) ?_
  · intro j u hu
    have hj : j < zs.length := by
      rcases Nat.lt_or_ge j zs.length with g | g
      · exact g
      · simp [g] at hu
    obtain ⟨b, off, h1, h2, h5⟩ := hl j hj
    cases h1
    have hadd : (⟨b, off, none⟩ : Addr).add j = ⟨b, off + j, none⟩ := by unfold Addr.add; split <;> simp_all
    rw [hadd, World.cell?_alloc_lt _ _ ⟨b, off + j, none⟩ h2]
    refine h5.trans ?_
    simp [zat, hj] at hu ⊢
    exact hu
  · intro u hu; obtain ⟨y, _, rfl⟩ := List.mem_map.1 hu; rfl
  · intro v' w2 hown2 hgrow _
    rw [Nat.zero_add, List.nil_append] at hown2
    have hb2 : Below w1.heap.size w1 w2 := hb0.grown hgrow (by simp) (fun k hk => (hown.lt k hk).1)
    obtain ⟨g, M, F, rfl, hg, hri, hM, hF⟩ := rowIs_of_owns hown2 h0
    exact h g M F w2 hg hri hM hF hb2

theorem lst_of_row {w : World} {g M N : Nat} {F : Nat → Value} {f : Nat → Int} (h : w.rowIs g 3 M F) (hn : N ≤ M) (hf : ∀ j, j < N → F j = .int .i64 (f j)) : Lst w.heap.size w (some ⟨g, 0, none⟩) M (ls f N) :=
  ⟨rowB_of_F h hn hf h.lt, by rw [ls_len]; exact hn, fun e => by cases e⟩

set_option maxRecDepth 1000000 in
set_option maxHeartbeats 8000000 in
theorem mends_walk (p n s k : Int) (a1 a2 a3 a4 : Option Addr) (c1 c2 c3 c4 : Nat) (xs ats iss gs : List Int) (w : World) (hL : Laid w) (hp1 : -9223372036854775808 ≤ p) (hp2 : p ≤ 9223372036854775807) (hn1 : -9223372036854775808 ≤ n) (hn2 : n ≤ 9223372036854775807) (hs1 : -9223372036854775808 ≤ s) (hs2 : s ≤ 9223372036854775807) (hk1 : -9223372036854775808 ≤ k) (hk2 : k ≤ 9223372036854775807)
    (hlx : xs.length ≤ 17592186043904) (hla : ats.length ≤ 17592186043904) (_hli : iss.length ≤ 17592186043904) (hlg : gs.length ≤ 17592186043904) (hf1 : Fits xs) (hf2 : Fits ats) (hf3 : Fits iss) (hf4 : Fits gs) (hl1 : Lst w.heap.size w a1 c1 xs) (hl2 : Lst w.heap.size w a2 c2 ats) (hl3 : Lst w.heap.size w a3 c3 iss) (hl4 : Lst w.heap.size w a4 c4 gs) :
    Calls Tryd.prog 4 #[.int .i64 p, .int .i64 n, .int .i64 s, .int .i64 k, .slice a1 xs.length c1, .slice a2 ats.length c2, .slice a3 iss.length c3, .slice a4 gs.length c4] w fun e w' => e = .returned (.bool true) ∧ Below w.heap.size w w' := by
  have HF1 := hid hf1
  have HF2 := hid hf2
  have HF3 := hid hf3
  have HF4 := hid hf4
  have HX := hid hl1
  have HAT := hid hl2.row
  have HIS := hid hl3.row
  have HGO := hid hl4.row
  clear hf1 hf2 hf3 hf4 hl1 hl2 hl3 hl4
  by_cases hgood : Good p n s
  · obtain ⟨q, kk, rfl, rfl, hg⟩ := hgood
    have HG := hid hg
    obtain ⟨hpr, h3, h4, hk, hd, hs⟩ := hg
    have hnp : 0 < 2 ^ kk := Nat.pow_pos (by decide)
    have hnl := two_pow_le hk
    have HM := hid (fun w1 => made_yes q kk s w1 HG.out hs1 hs2)
    have HSI : Hid (∀ (w1 : World) (b d r : Nat), RootIs q ((2 ^ kk : Nat) : Int) r → w1.cell? ⟨b, 0, none⟩ = some (.int .i64 q) → DomAt w1 d b ((2 ^ kk : Nat) : Int) r (s % (q : Int)) → Below w.heap.size w w1 →
        Sit w (w1.alloc (.cells #[.int .i64 q, .int .i64 ((2 ^ kk : Nat) : Int), .int .i64 (s % (q : Int)), .int .i64 r] 31)) q b d (2 ^ kk) w1.heap.size r (s % (q : Int))) := fun w1 b d r z1 z2 z3 z4 => sit_of HG.out hL z1 z2 z3 z4
    clear hpr hd hs hk hp1 hp2 hn1 hn2 hL
    generalize 2 ^ kk = N at *
    obtain ⟨tp, htp⟩ : ∃ tp, tp = tpn q (zat xs) xs.length := ⟨_, rfl⟩
    have HTP := hid htp
    have htl : tp ≤ xs.length := by rw [htp]; exact tpn_le q (zat xs) xs.length
    have HDG : Hid (∀ W : World, Below w.heap.size w W → Calls Tryd.prog 10 #[.int .i64 q, .slice a1 xs.length c1] W fun e w' => e = .returned (.int .i64 ((tp : Int) - 1)) ∧ w' = W) := fun W h => by
      rw [HTP.out]; exact rdeg_any q xs.length c1 (· < w.heap.size) a1 (zat xs) W h3 h4 (by omega) HF1.out (HX.out.row.below h).f
    clear htp
    go_enter Tryd.func4, Tryd.ntmps4
    go_wp2_with fail
    refine (HM.out _).mono ?_
    rintro e w1 ⟨b, d, r, rfl, hr, hc1, hda, hb1⟩
    have HS2 := hid (HSI.out w1 b d r hr hc1 hda hb1)
    obtain ⟨t0, t1⟩ := emod_bounds s q h3
    generalize s % (q : Int) = t at *
    clear hr hc1 hda hb1 HM HSI
    have hr0 := HS2.out.dom.hr0
    have hr1 := HS2.out.dom.hr1
    go_wp2_with fail
    generalize (w1.alloc (.cells #[.int .i64 q, .int .i64 N, .int .i64 t, .int .i64 r] 31)) = w2 at *
    refine (HDG.out w2 HS2.out.below).mono ?_
    rintro e w2 ⟨rfl, rfl⟩
    by_cases hin : 1 ≤ k ∧ k ≤ N ∧ (tp : Int) ≤ k
    · obtain ⟨i1, i2, i3⟩ := hin
      obtain ⟨m, rfl⟩ := Int.eq_ofNat_of_zero_le (show 0 ≤ k by omega)
      have g1 : ¬ (m : Int) < 1 := by omega
      have g2 : ¬ (N : Int) < (m : Int) := by omega
      have g3 : ¬ (m : Int) ≤ (tp : Int) - 1 := by omega
      obtain ⟨z0, z1, z2, z3⟩ := HS2.out.cells
      have hw2 := HS2.out.below.size
      obtain ⟨i0, hi, hz0, hz1, hz2⟩ := info_parts Tryd.infoInt
      have hmx : Tryd.prog.follows .mixedOrders = true := by kernel_rfl
      go_wp2_with fail
      refine (rvalues_any q N c1 r t a1 xs w2 h3 h4 hnp hnl hr0 hr1 t0 t1 (by omega) HF1.out ((HX.out.row.below HS2.out.below).mono hw2)).mono ?_
      rintro e w3 ⟨g, M, F, rfl, hg2, hri, hM, hF, hb3⟩
      have HB23 := hid hb3
      have HRI3 := hid hri
      have hgl3 := hri.lt
      obtain ⟨V, hV⟩ : ∃ V, V = fun j => evz q xs (Dom.pt q t r j) := ⟨_, rfl⟩
      have HVB : Hid (∀ j, 0 ≤ V j ∧ V j < q) := fun j => by rw [hV]; exact evz_bounds q xs _ h3
      have HFV : Hid (∀ j, j < N → F j = .int .i64 (V j)) := fun j hj => by rw [hV]; exact hF j hj
      have HVE := hid hV
      obtain ⟨VL, hVL⟩ : ∃ VL, VL = ls V N := ⟨_, rfl⟩
      have HVLL : Hid (VL.length = N) := by unfold Hid; rw [hVL, ls_len]
      have HVLA : Hid (∀ j, j < N → zat VL j = V j) := fun j hj => by rw [hVL, ls_at _ _ _ hj]
      have HRV : Hid (RowB w3.heap.size w3 (some ⟨g, 0, none⟩) VL) := by unfold Hid; rw [hVL]; exact rowB_of_F HRI3.out hM HFV.out hgl3
      clear hri hF hb3 hV hVL z0 z1 z2 z3
      go_wp2_with (at_builtin; refine wpList_copyR w3 rfl _ _ rfl rfl ⟨g, 0, none⟩ M VL (by rw [HVLL.out]; rfl) (by rw [HVLL.out]; omega) (by rw [HVLL.out]; exact hnp) HRV.out ?_)
      intro gS MS FS w4 hgS hriS hMS hFS hb4
      rw [HVLL.out]
      rw [HVLL.out] at hMS hFS
      have HRI4 : Hid (w4.rowIs g 3 M F) := rowIs_below HRI3.out hb4 hgl3
      have HSE4 : Hid (∀ j, j < N → w4.cell? ⟨gS, j, none⟩ = some (.int .i64 (V j))) := fun j hj => by rw [← HVLA.out j hj, ← hFS j hj]; exact hriS.cell (by omega)
      have HB24 : Hid (Below w2.heap.size w2 w4) := HB23.out.trans (hb4.mono HB23.out.size)
      have hneS : gS ≠ g := by omega
      clear hgS hriS hMS hFS hb4 HRV HVLL HVLA HRI3 HB23 hgl3
      go_wp2_with fail
      go_loopw [23] (fun iv wr => ∃ (i : Nat) (f : Nat → Int) (F' : Nat → Value), i ≤ ats.length ∧ i ≤ iss.length ∧ iv = .int .i64 i ∧ Hid (wr.rowIs g 3 M F') ∧ Hid (∀ j, j < N → F' j = .int .i64 (f j)) ∧ Hid (∀ j, -9223372036854775808 ≤ f j ∧ f j ≤ 9223372036854775807) ∧ Hid (Only g w4 wr))
        (fun iv _ => ats.length - (intOf iv).toNat)
      case atStart => exact ⟨0, V, F, Nat.zero_le _, Nat.zero_le _, rfl, HRI4, HFV, fun j => by have := HVB.out j; omega, Only.refl _ _⟩
      case round =>
        obtain ⟨i, f, F', hi1, hi2, rfl, hri, hF', hff, hon⟩ := hrel
        obtain ⟨w5, rfl⟩ : ∃ w5, w5 = wr := ⟨_, rfl⟩
        have HB25 : Hid (Below w2.heap.size w2 w5) := HB24.out.trans (hon.out.below hg2)
        have HBW : Hid (Below w.heap.size w w5) := HS2.out.below.trans (HB25.out.mono hw2)
        by_cases hgo : i < ats.length ∧ i < iss.length
        · obtain ⟨j1, j2⟩ := hgo
          have j1' : (i : Int) < (ats.length : Int) := by omega
          have j2' : (i : Int) < (iss.length : Int) := by omega
          obtain ⟨ba, oa, rfl, hba, hca⟩ := HAT.out i j1
          obtain ⟨bi, oi, rfl, hbi, hci⟩ := HIS.out i j2
          have hca2 := (HBW.out.cell (p := ⟨ba, oa + i, none⟩) hba).trans hca
          have hci2 := (HBW.out.cell (p := ⟨bi, oi + i, none⟩) hbi).trans hci
          obtain ⟨y1, y2⟩ := HF2.out i j1
          obtain ⟨x1, x2⟩ := HF3.out i j2
          clear hca hci
          generalize zat ats i = y at *
          generalize zat iss i = z at *
          by_cases hy : 0 ≤ y ∧ y < (N : Int)
          · obtain ⟨y3, y4⟩ := hy
            obtain ⟨l, rfl⟩ := Int.eq_ofNat_of_zero_le y3
            have hlM : l < M := by omega
            have hok := hri.out.cell hlM
            have hos := hri.out.frozen l
            have HRI : Hid ((w5.setCell ⟨g, l, none⟩ (.int .i64 z)).rowIs g 3 M (fun j => if j = l then .int .i64 z else F' j)) := hri.out.set l _
            have HFN : Hid (∀ j, j < N → (fun j => if j = l then Value.int .i64 z else F' j) j = .int .i64 (up f l z j)) := fun j hj => by
              show (if j = l then Value.int .i64 z else F' j) = .int .i64 (if j = l then z else f j)
              by_cases e : j = l
              · rw [if_pos e, if_pos e]
              · rw [if_neg e, if_neg e]; exact hF'.out j hj
            have HFF : Hid (∀ j, -9223372036854775808 ≤ up f l z j ∧ up f l z j ≤ 9223372036854775807) := fun j => by
              unfold up
              split
              · exact ⟨x1, x2⟩
              · exact hff.out j
            have HON := hid (hon.out.setCell (p := ⟨g, l, none⟩) rfl (.int .i64 z))
            rw [hF'.out l (by omega)] at hok
            generalize f l = old at *
            go_wp2_with fail
            go_still_tail 9, hmx
            go_wp2_with fail
            go_roundw
            case rel => exact ⟨i + 1, _, _, by omega, by omega, by go_num, HRI, HFN, HFF, HON.out.drew⟩
            case measure => simp [intOf]; omega
          · have hy' : ¬ 0 ≤ y ∨ (0 ≤ y ∧ ¬ y < (N : Int)) := by omega
            clear hy
            rcases hy' with y3 | ⟨y3, y4⟩
            · go_wp2_with fail
              go_roundw
              case rel => exact ⟨i + 1, f, F', by omega, by omega, by go_num, hri, hF', hff, hon⟩
              case measure => simp [intOf]; omega
            · go_wp2_with fail
              go_roundw
              case rel => exact ⟨i + 1, f, F', by omega, by omega, by go_num, hri, hF', hff, hon⟩
              case measure => simp [intOf]; omega
        · have hend : ¬ i < ats.length ∨ (i < ats.length ∧ ¬ i < iss.length) := by omega
          have HG' : Hid (w5.rowIs g 3 M F') := hri
          have HWC : Hid (∀ j, j < N → w5.cell? ⟨g, j, none⟩ = some (.int .i64 (f j))) := fun j hj => by rw [← hF'.out j hj]; exact hri.out.cell (by omega)
          have HSE : Hid (∀ j, j < N → w5.cell? ⟨gS, j, none⟩ = some (.int .i64 (V j))) := fun j hj => (hon.out.cell (p := ⟨gS, j, none⟩) hneS).trans (HSE4.out j hj)
          have hgl5 : g < w5.heap.size := hri.out.lt
          have hSl5 : gS < w5.heap.size := cell_lt (HSE.out 0 hnp)
          have HS5 := hid (HS2.out.step HB25.out)
          have HGR : Hid (RowB w.heap.size w5 a4 gs) := HGO.out.below HBW.out
          have HX5 : Hid (Lst w5.heap.size w5 a1 c1 xs) := (HX.out.below HBW.out).mono HBW.out.size
          have HGD : Hid (∀ m j, gk gs (m + 1) j = (gk gs m j || (zat gs m == (j : Int)))) := fun _ _ => rfl
          have HG0 : Hid (∀ j, gk gs 0 j = false) := fun _ => rfl
          have HLW : Hid (Lst w5.heap.size w5 (some ⟨g, 0, none⟩) M (ls f N)) := lst_of_row HG'.out hM hF'.out
          have HWF : Hid (Fits (ls f N)) := fun j hj => by rw [ls_len] at hj; rw [ls_at _ _ _ hj]; exact hff.out j
          have HWA : Hid (∀ j, j < N → zat (ls f N) j = f j) := fun j hj => ls_at _ _ _ hj
          have HWL : Hid ((ls f N).length = N) := ls_len _ _
          obtain ⟨WL, hWL⟩ : ∃ WL, WL = ls f N := ⟨_, rfl⟩
          rw [← hWL] at HLW HWF HWA HWL
          obtain ⟨P, hP⟩ : ∃ P, P = wq q (gk gs gs.length) V WL := ⟨_, rfl⟩
          have HPD : Hid (∀ j, j < N → P j = (!(gk gs gs.length j) && !(V j == f j % (q : Int)))) := fun j hj => by rw [hP, ← HWA.out j hj]; rfl
          have HPE := hid hP
          have hwsz := HBW.out.size
          have hj1 : ¬ i < ats.length → ¬ (i : Int) < (ats.length : Int) := fun h => by omega
          have hj2 : ¬ i < iss.length → ¬ (i : Int) < (iss.length : Int) := fun h => by omega
          have hj3 : i < ats.length → (i : Int) < (ats.length : Int) := fun h => by omega
          have HJ : Hid ((¬ (i : Int) < (ats.length : Int)) ∨ ((i : Int) < (ats.length : Int) ∧ ¬ (i : Int) < (iss.length : Int))) := by
            rcases hend with h | ⟨h, h'⟩
            · exact Or.inl (hj1 h)
            · exact Or.inr ⟨hj3 h, hj2 h'⟩
          clear hj1 hj2 hj3 hend hgo hWL hP hri hF' hon HB24 HRI4 HSE4 HB25 HBW HG'
          rcases HJ.out with hx1 | ⟨hx1, hx2⟩
          all_goals
            clear HJ
            go_wp2_with fail
            go_loopw [24, 25, 26] (fun wv lv iv wr => ∃ i' : Nat, i' ≤ N ∧ iv = .int .i64 i' ∧ lv = .int .i64 (Cod.cnt (gk gs gs.length) i' : Nat) ∧ wr.ownsRow w5.heap.size 3 1 wv (pk P (fun j => (j : Int)) i').length ((pk P (fun j => (j : Int)) i').map (Value.int .i64)) ∧ Below w5.heap.size w5 wr)
              (fun _ _ iv _ => N - (intOf iv).toNat)
            case atStart => exact ⟨0, Nat.zero_le _, rfl, rfl, World.ownsRow_nil _ _ _ _, Below.refl _ _⟩
            case round =>
              obtain ⟨i', hin, rfl, rfl, hown, hbel⟩ := hrel
              obtain ⟨wo, rfl⟩ : ∃ wo, wo = wr := ⟨_, rfl⟩
              have hsz := hbel.size
              have hcl := Cod.cnt_le (gk gs gs.length) i'
              by_cases hlt : i' < N
              · have hlt2 : (i' : Int) < (N : Int) := by omega
                have HGW : Hid (RowB w.heap.size wo a4 gs) := HGR.out.below (hbel.mono hwsz)
                have HPK : Hid (pk P (fun j => (j : Int)) (i' + 1) = if P i' then pk P (fun j => (j : Int)) i' ++ [(i' : Int)] else pk P (fun j => (j : Int)) i') := rfl
                have hpl3 : (pk P (fun j => (j : Int)) i').length ≤ 65536 := by
                  have := pk_len P (fun j => (j : Int)) i'
                  have := Cod.cnt_le P i'
                  omega
                have HPI := hid (HPD.out i' hlt)
                have HCS : Hid (Cod.cnt (gk gs gs.length) (i' + 1) = Cod.cnt (gk gs gs.length) i' + (if gk gs gs.length i' then 1 else 0)) := rfl
                obtain ⟨cn, hcn⟩ : ∃ cn, cn = Cod.cnt (gk gs gs.length) (i' + 1) := ⟨_, rfl⟩
                have HCN := hid hcn
                rw [← hcn] at HCS
                generalize Cod.cnt (gk gs gs.length) i' = ck at *
                generalize P i' = pi at *
                generalize pk P (fun j => (j : Int)) i' = lk at *
                clear hcn
                go_wp2_with fail
                go_loop [27, 28] (fun kv jv => ∃ j : Nat, j ≤ gs.length ∧ jv = .int .i64 j ∧ kv = .bool (!(gk gs j i'))) (fun _ jv => gs.length - (intOf jv).toNat)
                case atStart => exact ⟨0, Nat.zero_le _, rfl, by rw [HG0.out]; rfl⟩
                case round =>
                  obtain ⟨j, hj, rfl, rfl⟩ := hrel
                  by_cases hjl : j < gs.length
                  · have hjl2 : (j : Int) < (gs.length : Int) := by omega
                    have HGS := hid (HGD.out j i')
                    obtain ⟨bl, ol, rfl, hbl, hcl2⟩ := HGW.out j hjl
                    obtain ⟨y1, y2⟩ := HF4.out j hjl
                    generalize zat gs j = y at *
                    cases hgj : gk gs j i' with
                    | true =>
                      rw [hgj] at HGS
                      go_wp2_with fail
                      go_round
                      case rel => exact ⟨j + 1, by omega, by go_num, by rw [HGS.out]; rfl⟩
                      case measure => simp [intOf]; omega
                    | false =>
                      rw [hgj] at HGS
                      by_cases hy : y = (i' : Int)
                      · have hyb : (y != (i' : Int)) = false := by rw [hy]; simp
                        have HGT : Hid (gk gs (j + 1) i' = true) := by unfold Hid; rw [HGS.out, hy]; simp
                        clear hy
                        go_wp2_with fail
                        go_round
                        case rel => exact ⟨j + 1, by omega, by go_num, by rw [HGT.out]; rfl⟩
                        case measure => simp [intOf]; omega
                      · have hyb : (y != (i' : Int)) = true := by rw [bne_iff_ne]; exact hy
                        have HGT : Hid (gk gs (j + 1) i' = false) := by unfold Hid; rw [HGS.out, beq_eq_false_iff_ne.2 hy]; rfl
                        clear hy
                        go_wp2_with fail
                        go_round
                        case rel => exact ⟨j + 1, by omega, by go_num, by rw [HGT.out]; rfl⟩
                        case measure => simp [intOf]; omega
                  · have hjl2 : ¬ (j : Int) < (gs.length : Int) := by omega
                    obtain rfl : j = gs.length := by omega
                    have hcl2 := (hbel.cell (p := ⟨g, i', none⟩) hgl5).trans (HWC.out i' hlt)
                    have hv2 := (hbel.cell (p := ⟨gS, i', none⟩) hSl5).trans (HSE.out i' hlt)
                    obtain ⟨y1, y2⟩ := hff.out i'
                    obtain ⟨v1, v2⟩ := HVB.out i'
                    have HRO : Hid (∀ W : World, Calls Tryd.prog 12 #[.int .i64 q, .int .i64 (f i')] W fun e w' => e = .returned (.int .i64 (f i' % (q : Int))) ∧ w' = W) := fun W => rof_any q _ W h3 h4 y1 y2
                    generalize f i' % (q : Int) = ym at *
                    generalize f i' = y at *
                    generalize V i' = vk at *
                    cases hgi : gk gs gs.length i' with
                    | true =>
                      rw [hgi] at HPI HCS
                      have hcn1 : cn = ck + 1 := by rw [HCS.out]; simp
                      have hpi : pi = false := by rw [HPI.out]; rfl
                      rw [hpi] at HPK
                      simp only [Bool.false_eq_true, if_false] at HPK
                      clear hpi
                      go_wp2_with fail
                      refine (HRO.out _).mono ?_
                      rintro e wx ⟨rfl, rfl⟩
                      have HO := hid hown
                      have HB := hid hbel
                      clear hown hbel hcl2 hv2
                      go_wp2_with fail
                      go_roundw
                      case rel => exact ⟨i' + 1, by omega, by go_num, by rw [← HCN.out]; go_num, by rw [HPK.out]; exact HO.out, HB.out⟩
                      case measure => simp [intOf]; omega
                    | false =>
                      rw [hgi] at HPI HCS
                      have HCS2 : Hid (cn = ck) := by unfold Hid; rw [HCS.out]; simp
                      by_cases he : ym = vk
                      · have heb : (ym != vk) = false := by rw [he]; simp
                        have hpi : pi = false := by rw [HPI.out, he]; simp
                        rw [hpi] at HPK
                        simp only [Bool.false_eq_true, if_false] at HPK
                        clear hpi he
                        go_wp2_with fail
                        refine (HRO.out _).mono ?_
                        rintro e wx ⟨rfl, rfl⟩
                        have HO := hid hown
                        have HB := hid hbel
                        clear hown hbel
                        go_wp2_with fail
                        go_roundw
                        case rel => exact ⟨i' + 1, by omega, by go_num, by rw [← HCN.out, HCS2.out], by rw [HPK.out]; exact HO.out, HB.out⟩
                        case measure => simp [intOf]; omega
                      · have heb : (ym != vk) = true := by rw [bne_iff_ne]; exact he
                        have hpi : pi = true := by rw [HPI.out, show (vk == ym) = false from by rw [beq_eq_false_iff_ne]; exact fun h => he h.symm]; rfl
                        rw [hpi] at HPK
                        simp only [if_true] at HPK
                        clear hpi he
                        go_wp2_with fail
                        refine (HRO.out _).mono ?_
                        rintro e wx ⟨rfl, rfl⟩
                        go_wp2_with (at_builtin; refine wpList_append_own _ rfl _ _ 22 rfl w5.heap.size 3 i0 (.int .i64 0) 1 8 Tryd.underlying22 hi hz0 hz1 hz2 rfl (by decide) _ _ _ rfl (hown.alloc _) ⟨wx.heap.size, 0, none⟩ 1 1 [.int .i64 i'] rfl rfl ?c1 ?c2 ?c3 ?c4 ?c5 ?_)
                        case c1 =>
                          intro j u hj
                          match j, hj with
                          | 0, hj => simp at hj; subst hj; simp [Addr.add]
                        case c2 => intro u hu; simp at hu; subst hu; rfl
                        case c3 => unfold maxLen; omega
                        case c4 => omega
                        case c5 => simp; omega
                        intro v' w9 hown2 hgrow _
                        have hown3 := owns_succ hown2
                        have HB : Hid (Below w5.heap.size w5 w9) := (hbel.alloc hsz _).grown hgrow (by simp; omega) (fun k hk => (hown.lt k hk).1)
                        have HO := hid hown3
                        clear hown2 hown3 hgrow hown hbel
                        go_wp2_with fail
                        go_roundw
                        case rel => exact ⟨i' + 1, by omega, by go_num, by rw [← HCN.out, HCS2.out], by rw [HPK.out]; exact HO.out, HB.out⟩
                        case measure => simp [intOf]; omega
              · have hlt2 : ¬ (i' : Int) < (N : Int) := by omega
                obtain rfl : i' = N := by omega
                obtain ⟨aw, cw, rfl, hlw⟩ := lst_of_owns hown
                have HPKL : Hid ((pk P (fun j => (j : Int)) i').length = Cod.cnt P i') := pk_len _ _ _
                have hpl : (pk P (fun j => (j : Int)) i').length ≤ i' := by rw [HPKL.out]; exact Cod.cnt_le _ _
                have HWR := hid hlw
                have HS6 := hid (HS5.out.step hbel)
                have HX6 := hid ((HX5.out.below hbel).mono hbel.size)
                have HLW6 := hid ((HLW.out.below hbel).mono hbel.size)
                have HGR6 : Hid (RowB wo.heap.size wo a4 gs) := ((HGR.out.below (hbel.mono hwsz)).mono (by omega))
                have HTC : Hid (Pol.Can q (Pol.trim q xs) ∧ (Pol.trim q xs).length ≤ m) := ⟨Pol.trim_can (by omega) xs, by rw [trim_len, ← HTP.out]; omega⟩
                have HOFF : Hid (off q i' r t (gk gs gs.length) WL (Pol.trim q xs) = (pk P (fun j => (j : Int)) i').length) := by
                  unfold Hid
                  rw [off_trim (by omega), HPKL.out, HPE.out, HVE.out]
                  rfl
                have HSAM : Hid (pk (wq q (gk gs gs.length) (fun j => evz q (Pol.trim q xs) (Dom.pt q t r j)) WL) (fun j => (j : Int)) i' = pk P (fun j => (j : Int)) i') := by
                  unfold Hid
                  rw [HPE.out, HVE.out]
                  simp only [evz_trim (show 0 < q by omega)]
                obtain ⟨LL, hLL⟩ : ∃ LL, LL = pk P (fun j => (j : Int)) i' := ⟨_, rfl⟩
                rw [← hLL] at HWR HOFF HSAM hpl ⊢
                clear hown hlw hbel hLL HPKL HPD HPE HVE HVB HGD HG0
                obtain ⟨ct, hct⟩ : ∃ ct, ct = Cod.cnt (gk gs gs.length) i' := ⟨_, rfl⟩
                have HCT := hid hct
                rw [← hct] at hcl ⊢
                obtain ⟨TX, hTX⟩ : ∃ TX, TX = Pol.trim q xs := ⟨_, rfl⟩
                have HTX := hid hTX
                rw [← hTX] at HTC HOFF HSAM
                have hTXl : TX.length ≤ xs.length := by rw [hTX]; exact Pol.trim_le q xs
                clear hct hTX
                by_cases hfar : i' - m < 2 * LL.length + ct
                · have e5 : (i' : Int) - (m : Int) < 2 * (LL.length : Int) + (ct : Int) := by omega
                  go_wp2_with fail
                  go_ret
                  exact ⟨rfl, HS6.out.below⟩
                · have e5 : ¬ (i' : Int) - (m : Int) < 2 * (LL.length : Int) + (ct : Int) := by omega
                  go_wp2_with (at_builtin; refine wpList_copyR wo rfl _ _ rfl rfl ⟨g, 0, none⟩ M WL (by rw [HWL.out]; rfl) (by rw [HWL.out]; omega) (by rw [HWL.out]; exact hnp) HLW6.out.row ?_)
                  intro gO MO FO w7 hgO hriO hMO hFO hb7
                  rw [HWL.out]
                  have HLO : Hid (Lst w7.heap.size w7 (some ⟨gO, 0, none⟩) MO WL) := ⟨fun j hj => ⟨gO, 0, rfl, hriO.lt, by rw [Nat.zero_add, ← hFO j hj]; exact hriO.cell (by omega)⟩, hMO, fun e => by cases e⟩
                  have HS7 := hid (HS6.out.step hb7)
                  have HGR7 := hid ((HGR6.out.below hb7).mono hb7.size)
                  have HA7 : Hid (AliveL w7 [(some ⟨gO, 0, none⟩, MO, WL), (some ⟨g, 0, none⟩, M, WL), (aw, cw, LL), (a1, c1, xs)]) := ((((((AliveL.nil wo).cons HX6.out).cons HWR.out).cons HLW6.out)).step hb7).cons HLO.out
                  have HDC := hid (dec_any HS7.out.dom m (some ⟨gO, 0, none⟩) a4 MO c4 WL gs (by omega) (by omega) HWL.out (by omega) HWF.out HF4.out HLO.out.row HGR7.out)
                  clear hgO hriO hMO hFO hb7 HLO HS6 HGR6 HX6 HWR HLW6 HLW HX5 HS5
                  go_wp2_with fail
                  refine HDC.out.mono ?_
                  rintro e w8 ⟨aa, wl, ok, aq, aw', cq, cw', rfl, hdec, hlq, hlwl, hb8⟩
                  have hyes : ok = true ∧ aa = TX ∧ wl = LL := by
                    rcases hdec with ⟨_, _, _, hno⟩ | ⟨h1, _, _, h5, _, hone⟩
                    · exact absurd (by rw [HOFF.out, ← HCT.out]; omega) (hno TX HTC.out.1 HTC.out.2)
                    · have e1 := hone TX HTC.out.1 HTC.out.2 (by rw [HOFF.out, ← HCT.out]; omega)
                      exact ⟨h1, e1, by rw [h5, e1]; exact HSAM.out⟩
                  obtain ⟨rfl, rfl, rfl⟩ := hyes
                  have HS8 := hid (HS7.out.step hb8)
                  have HA8 := hid (((HA7.out.step hb8).cons hlwl).cons hlq)
                  have HRT := hid (rtrim_any q c1 a1 xs w8 h3 h4 (by omega) HF1.out (HA8.out.at 5 rfl))
                  rw [← HTX.out] at HRT
                  clear hdec hlq hlwl hb8 HDC HS7 HA7 HGR7 HOFF HSAM HTC HTX
                  go_wp2_with fail
                  refine HRT.out.mono ?_
                  rintro e w9 ⟨a9, c9, rfl, hl9, hb9⟩
                  have HS9 := hid (HS8.out.step hb9)
                  have HA9 := hid ((HA8.out.step hb9).cons hl9)
                  clear hl9 hb9 HRT HS8 HA8
                  go_wp2_with fail
                  refine (ints_same _ _ aa _ _ cq c9 w9 (HA9.out.at 1 rfl).row (HA9.out.at 0 rfl).row (by omega)).mono ?_
                  rintro e w10 ⟨rfl, n10, rfl⟩
                  have hb10 : Below w9.heap.size w9 (w9.drewN n10) := below_drewN (Below.refl w9.heap.size w9) n10
                  have HS10 := hid (HS9.out.step hb10)
                  have HA10 := hid (HA9.out.step hb10)
                  clear hb10 HS9 HA9
                  generalize w9.drewN n10 = w10 at *
                  go_wp2_with fail
                  refine (ints_same _ _ wl _ _ cw' cw w10 (HA10.out.at 2 rfl).row (HA10.out.at 5 rfl).row (by omega)).mono ?_
                  rintro e w11 ⟨rfl, n11, rfl⟩
                  have hb11 : Below w10.heap.size w10 (w10.drewN n11) := below_drewN (Below.refl w10.heap.size w10) n11
                  have HS11 := hid (HS10.out.step hb11)
                  have HA11 := hid (HA10.out.step hb11)
                  clear hb11 HS10 HA10
                  generalize w10.drewN n11 = w11 at *
                  have HI3 := hid (ints_same _ _ WL _ _ MO M w11 (HA11.out.at 3 rfl).row (HA11.out.at 4 rfl).row (by rw [HWL.out]; omega))
                  rw [HWL.out] at HI3
                  go_wp2_with fail
                  refine HI3.out.mono ?_
                  rintro e w12 ⟨rfl, n12, rfl⟩
                  go_wp2_with fail
                  go_ret
                  exact ⟨rfl, below_drewN HS11.out.below n12⟩
    · have hk2' : k < 1 ∨ (¬ k < 1 ∧ (N : Int) < k) ∨ (¬ k < 1 ∧ ¬ (N : Int) < k ∧ k ≤ (tp : Int) - 1) := by omega
      clear hin
      rcases hk2' with g1 | ⟨g1, g2⟩ | ⟨g1, g2, g3⟩
      · go_wp2_with fail
        go_ret
        exact ⟨rfl, HS2.out.below⟩
      · go_wp2_with fail
        go_ret
        exact ⟨rfl, HS2.out.below⟩
      · go_wp2_with fail
        go_ret
        exact ⟨rfl, HS2.out.below⟩
  · have HM := hid (made_no p n s w hL hgood hp1 hp2 hn1 hn2 hs1 hs2)
    clear hgood
    go_enter Tryd.func4, Tryd.ntmps4
    go_wp2_with fail
    refine HM.out.mono ?_
    rintro e w1 ⟨rfl, hb1⟩
    have HB1 := hid hb1
    clear hb1
    go_wp2_with fail
    go_ret
    exact ⟨rfl, HB1.out.alloc HB1.out.size _⟩

end Go.Proofs.YtbpkmhibdaafiadDoor
