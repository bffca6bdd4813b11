/- The law CodeDecodes answers true: of any word what is told is near enough; and where anything is near enough it is told. -/
import Derived.Test.YtbpkmhibdaafiadDoorApartW
namespace Go.Proofs.YtbpkmhibdaafiadDoor
open Go.RowKit

/-- lists that can be read now, with their room -/
def AliveL (w : World) (L : List (Option Addr × Nat × List Int)) : Prop := ∀ e, e ∈ L → Lst w.heap.size w e.1 e.2.1 e.2.2
theorem AliveL.step {w w' : World} {L : List (Option Addr × Nat × List Int)} (h : AliveL w L) (hb : Below w.heap.size w w') : AliveL w' L := fun e he => ((h e he).below hb).mono hb.size
theorem AliveL.nil (w : World) : AliveL w [] := fun e he => by cases he
theorem AliveL.cons {w : World} {L : List (Option Addr × Nat × List Int)} {a : Option Addr} {c : Nat} {zs : List Int} (h : AliveL w L) (r : Lst w.heap.size w a c zs) : AliveL w ((a, c, zs) :: L) := fun e he => by
  cases he with
  | head => exact r
  | tail _ he => exact h e he
theorem AliveL.at {w : World} {L : List (Option Addr × Nat × List Int)} (h : AliveL w L) (i : Nat) {a : Option Addr} {c : Nat} {zs : List Int} (e : L[i]? = some (a, c, zs)) : Lst w.heap.size w a c zs := h _ (List.mem_of_getElem? e)

theorem off_trim {p : Nat} (hp : 0 < p) (n : Nat) (r s : Int) (G : Nat → Bool) (ws zs : List Int) : off p n r s G ws (Pol.trim p zs) = off p n r s G ws zs :=
  Cod.cnt_congr (fun j _ => by unfold wq; simp only [evz_trim hp])

theorem trim_len (p : Nat) (zs : List Int) : (Pol.trim p zs).length = tpn p (zat zs) zs.length := by
  rw [Pol.trim, Pol.mk_length]
  rfl

set_option maxRecDepth 1000000 in
set_option maxHeartbeats 4000000 in
theorem decodes_walk (p n s k : Int) (a1 a2 a3 : Option Addr) (c1 c2 c3 : Nat) (ws gs os : List Int) (w : World) (hL : Laid w) (hp1 : -9223372036854775808 ≤ p) (hp2 : p ≤ 9223372036854775807) (hn1 : -9223372036854775808 ≤ n) (hn2 : n ≤ 9223372036854775807) (hs1 : -9223372036854775808 ≤ s) (hs2 : s ≤ 9223372036854775807) (hk1 : -9223372036854775808 ≤ k) (hk2 : k ≤ 9223372036854775807)
    (_hlw : ws.length ≤ 17592186043904) (hlg : gs.length ≤ 17592186043904) (hlo : os.length ≤ 17592186043904) (hf1 : Fits ws) (hf2 : Fits gs) (hf3 : Fits os) (hl1 : Lst w.heap.size w a1 c1 ws) (hl2 : Lst w.heap.size w a2 c2 gs) (hl3 : Lst w.heap.size w a3 c3 os) :
    Calls Tryd.prog 5 #[.int .i64 p, .int .i64 n, .int .i64 s, .int .i64 k, .slice a1 ws.length c1, .slice a2 gs.length c2, .slice a3 os.length c3] w fun e w' => e = .returned (.bool true) ∧ Below w.heap.size w w' := by
  have HF1 := hid hf1
  have HF2 := hid hf2
  have HF3 := hid hf3
  have HAL : Hid (AliveL w [(a1, c1, ws), (a2, c2, gs), (a3, c3, os)]) := (((AliveL.nil w).cons hl3).cons hl2).cons hl1
  clear hf1 hf2 hf3 hl1 hl2 hl3
  by_cases hgood : Good p n s
  · obtain ⟨q, kk, rfl, rfl, hg⟩ := hgood
    have HG := hid hg
    obtain ⟨hpr, h3, h4, hk, hd, hs⟩ := hg
    have HPR := hid hpr
    have hnp : 0 < 2 ^ kk := Nat.pow_pos (by decide)
    have hnl := two_pow_le hk
    have HM := hid (fun w1 => made_yes q kk s w1 HG.out hs1 hs2)
    have HSI : Hid (∀ (w1 : World) (b d r : Nat), RootIs q ((2 ^ kk : Nat) : Int) r → w1.cell? ⟨b, 0, none⟩ = some (.int .i64 q) → DomAt w1 d b ((2 ^ kk : Nat) : Int) r (s % (q : Int)) → Below w.heap.size w w1 →
        Sit w (w1.alloc (.cells #[.int .i64 q, .int .i64 ((2 ^ kk : Nat) : Int), .int .i64 (s % (q : Int)), .int .i64 r] 31)) q b d (2 ^ kk) w1.heap.size r (s % (q : Int))) := fun w1 b d r z1 z2 z3 z4 => sit_of HG.out hL z1 z2 z3 z4
    clear hpr hd hs hk hp1 hp2 hn1 hn2 hL
    generalize 2 ^ kk = N at *
    obtain ⟨tp, htp⟩ : ∃ tp, tp = tpn q (zat os) os.length := ⟨_, rfl⟩
    have HTP := hid htp
    have htl : tp ≤ os.length := by rw [htp]; exact tpn_le q (zat os) os.length
    have HDG : Hid (∀ W : World, Lst W.heap.size W a3 c3 os → Calls Tryd.prog 10 #[.int .i64 q, .slice a3 os.length c3] W fun e w' => e = .returned (.int .i64 ((tp : Int) - 1)) ∧ w' = W) := fun W h => by
      rw [HTP.out]; exact rdeg_any q os.length c3 (· < W.heap.size) a3 (zat os) W h3 h4 (by omega) HF3.out h.row.f
    clear htp
    go_enter Tryd.func5, Tryd.ntmps5
    go_wp2_with fail
    refine (HM.out _).mono ?_
    rintro e w1 ⟨b, d, r, rfl, hr, hc1, hda, hb1⟩
    have HS2 := hid (HSI.out w1 b d r hr hc1 hda hb1)
    have hba : Below w1.heap.size w1 (w1.alloc (.cells #[.int .i64 q, .int .i64 N, .int .i64 (s % (q : Int)), .int .i64 r] 31)) := (Below.refl _ _).alloc (Nat.le_refl _) _
    have HA2 := hid ((HAL.out.step hb1).step hba)
    obtain ⟨t0, t1⟩ := emod_bounds s q h3
    generalize s % (q : Int) = t at *
    clear hr hc1 hda hb1 HM HSI HAL hba
    have hr0 := HS2.out.dom.hr0
    have hr1 := HS2.out.dom.hr1
    go_wp2_with fail
    generalize (w1.alloc (.cells #[.int .i64 q, .int .i64 N, .int .i64 t, .int .i64 r] 31)) = w2 at *
    by_cases hin : 1 ≤ k ∧ k ≤ N
    · obtain ⟨i1, i2⟩ := hin
      obtain ⟨m, rfl⟩ := Int.eq_ofNat_of_zero_le (show 0 ≤ k by omega)
      have g1 : ¬ (m : Int) < 1 := by omega
      have g2 : ¬ (N : Int) < (m : Int) := by omega
      by_cases hw : ws.length = N
      · have HDC := hid (dec_any HS2.out.dom m a1 a2 c1 c2 ws gs (by omega) (by omega) hw (by omega) HF1.out HF2.out (HA2.out.at 0 rfl).row (HA2.out.at 1 rfl).row)
        have HAP : Hid (∀ (W : World) (a : Option Addr) (c : Nat) (zs : List Int), zs.length ≤ 281474976710656 → Fits zs → RowB W.heap.size W a zs → RowB W.heap.size W a1 ws → RowB W.heap.size W a2 gs →
            Calls Tryd.prog 16 #[.agg #[.int .i64 q, .int .i64 N, .int .i64 t, .int .i64 r], .int .i64 m, .slice a1 N c1, .slice a2 gs.length c2, .slice a zs.length c] W fun e w' => ∃ (a : Option Addr) (c : Nat),
              e = .returned (.tuple #[.slice a (pk (wq q (gk gs gs.length) (fun j => evz q zs (Dom.pt q t r j)) ws) (fun j => (j : Int)) N).length c, .bool (decide (2 * off q N r t (gk gs gs.length) ws zs + Cod.cnt (gk gs gs.length) N ≤ N - m))]) ∧
              Lst w'.heap.size w' a c (pk (wq q (gk gs gs.length) (fun j => evz q zs (Dom.pt q t r j)) ws) (fun j => (j : Int)) N) ∧ Below W.heap.size W w') :=
          fun W a c zs z1 z2 z3 z4 z5 => apart_any q N m c1 c2 c r t a1 a2 a ws gs zs W h3 h4 hnp hnl hr0 hr1 t0 t1 (by omega) hw (by omega) z1 HF1.out HF2.out z2 z4 z5 z3
        have hne : ((N : Int) != (N : Int)) = false := by simp
        rw [hw]
        clear hw
        generalize gk gs gs.length = G at *
        refine HDC.out.mono ?_
        rintro e w3 ⟨aa, wl, ok, aq, aw, cq, cw, rfl, hdec, hlq, hlwl, hb3⟩
        have HS3 := hid (HS2.out.step hb3)
        have HA3 : Hid (AliveL w3 [(aq, cq, aa), (aw, cw, wl), (a1, c1, ws), (a2, c2, gs), (a3, c3, os)]) := ((HA2.out.step hb3).cons hlwl).cons hlq
        have HNR : Hid (tp ≤ m → 2 * off q N r t G ws os + Cod.cnt G N ≤ N - m → Pol.Can q (Pol.trim q os) ∧ (Pol.trim q os).length ≤ m ∧ 2 * off q N r t G ws (Pol.trim q os) + Cod.cnt G N ≤ N - m) := fun z1 z2 =>
          ⟨Pol.trim_can (by omega) os, by rw [trim_len, ← HTP.out]; exact z1, by rw [off_trim (by omega)]; exact z2⟩
        clear hlq hlwl hb3 HS2 HA2 HDC
        rcases hdec with ⟨rfl, haa, hwl, hno⟩ | ⟨rfl, hcan, hal, hwl, hnear, hone⟩
        · have e0 : ((aa.length : Int) == 0) = true := by rw [haa]; rfl
          have e00 : ((wl.length : Int) == 0) = true := by rw [hwl]; rfl
          have hal : aa.length ≤ 0 := by rw [haa]; simp
          have HNO := hid hno
          clear haa hwl hno
          go_wp2_with fail
          refine (HDG.out w3 (HA3.out.at 4 rfl)).mono ?_
          rintro e w4 ⟨rfl, rfl⟩
          by_cases hdeg : tp ≤ m
          · have g3 : (tp : Int) - 1 < (m : Int) := by omega
            have HNF : Hid (decide (2 * off q N r t G ws os + Cod.cnt G N ≤ N - m) = false) := decide_eq_false (fun z => by
              obtain ⟨y1, y2, y3⟩ := HNR.out hdeg z
              exact HNO.out _ y1 y2 y3)
            have HAO := hid (HAP.out w4 a3 c3 os (by omega) HF3.out (HA3.out.at 4 rfl).row (HA3.out.at 2 rfl).row (HA3.out.at 3 rfl).row)
            rw [HNF.out] at HAO
            obtain ⟨z0, z1, z2, z3⟩ := HS3.out.cells
            go_wp2_with fail
            refine HAO.out.mono ?_
            rintro e w5 ⟨ax, cx, rfl, _, hb5⟩
            have HS5 := hid (HS3.out.step hb5)
            have HA5 := hid (HA3.out.step hb5)
            clear hb5 HAO z0 z1 z2 z3 HS3 HA3
            go_wp2_with fail
            refine (rtrim_any q c3 a3 os w5 h3 h4 (by omega) HF3.out (HA5.out.at 4 rfl)).mono ?_
            rintro e w6 ⟨a6, c6, rfl, hl6, hb6⟩
            have HS6 := hid (HS5.out.step hb6)
            have HA6 := hid (HA5.out.step hb6)
            have htol := Pol.trim_le q os
            have HII := hid (ints_any aa (Pol.trim q os) _ _ w6 (rowZ_of_B cq (HA6.out.at 0 rfl).row) (rowZ_of_B c6 hl6.row) (by omega) (by omega))
            clear hl6 hb6 HS5 HA5
            go_wp2_with fail
            refine HII.out.mono ?_
            rintro e w7 ⟨rfl, n7, rfl⟩
            have hb7 : Below w6.heap.size w6 (w6.drewN n7) := below_drewN (Below.refl w6.heap.size w6) n7
            have HS7 := hid (HS6.out.step hb7)
            have HA7 := hid (HA6.out.step hb7)
            clear hb7 HS6 HA6
            generalize w6.drewN n7 = w7 at *
            go_wp2_with fail
            go_ret
            exact ⟨rfl, HS7.out.below⟩
          · have g3 : ¬ (tp : Int) - 1 < (m : Int) := by omega
            go_wp2_with fail
            go_ret
            exact ⟨rfl, HS3.out.below⟩
        · have HCAN := hid hcan
          have hal2 : (aa.length : Int) ≤ (m : Int) := by omega
          have HWL := hid hwl
          have HNEAR : Hid (decide (2 * off q N r t G ws aa + Cod.cnt G N ≤ N - m) = true) := decide_eq_true hnear
          have HONE := hid hone
          have HTI := hid (Pol.trim_id (by omega) hcan)
          clear hcan hwl hnear hone
          go_wp2_with fail
          refine (HDG.out w3 (HA3.out.at 4 rfl)).mono ?_
          rintro e w4 ⟨rfl, rfl⟩
          by_cases hdeg : tp ≤ m
          · have g3 : (tp : Int) - 1 < (m : Int) := by omega
            have HAO := hid (HAP.out w4 a3 c3 os (by omega) HF3.out (HA3.out.at 4 rfl).row (HA3.out.at 2 rfl).row (HA3.out.at 3 rfl).row)
            cases hnr : decide (2 * off q N r t G ws os + Cod.cnt G N ≤ N - m) with
            | true =>
              rw [hnr] at HAO
              have HEQ : Hid (aa = Pol.trim q os) := by
                obtain ⟨y1, y2, y3⟩ := HNR.out hdeg (of_decide_eq_true hnr)
                exact HONE.out _ y1 y2 y3
              obtain ⟨z0, z1, z2, z3⟩ := HS3.out.cells
              go_wp2_with fail
              refine HAO.out.mono ?_
              rintro e w5 ⟨ax, cx, rfl, _, hb5⟩
              have HS5 := hid (HS3.out.step hb5)
              have HA5 := hid (HA3.out.step hb5)
              clear hb5 HAO z0 z1 z2 z3 HS3 HA3
              go_wp2_with fail
              refine (rtrim_any q c3 a3 os w5 h3 h4 (by omega) HF3.out (HA5.out.at 4 rfl)).mono ?_
              rintro e w6 ⟨a6, c6, rfl, hl6, hb6⟩
              have HS6 := hid (HS5.out.step hb6)
              have HA6 := hid (HA5.out.step hb6)
              have htol := Pol.trim_le q os
              have HII := hid (ints_any aa (Pol.trim q os) _ _ w6 (rowZ_of_B cq (HA6.out.at 0 rfl).row) (rowZ_of_B c6 hl6.row) (by omega) (by omega))
              clear hl6 hb6 HS5 HA5
              rw [decide_eq_true HEQ.out] at HII
              go_wp2_with fail
              refine HII.out.mono ?_
              rintro e w7 ⟨rfl, n7, rfl⟩
              have hb7 : Below w6.heap.size w6 (w6.drewN n7) := below_drewN (Below.refl w6.heap.size w6) n7
              have HS7 := hid (HS6.out.step hb7)
              have HA7 := hid (HA6.out.step hb7)
              clear hb7 HS6 HA6
              generalize w6.drewN n7 = w7 at *
              go_wp2_with fail
              refine (rtrim_any q cq aq aa w7 h3 h4 (by omega) (can_fits h4 HCAN.out) (HA7.out.at 0 rfl)).mono ?_
              rintro e w8 ⟨a8, c8, rfl, hl8, hb8⟩
              rw [HTI.out] at hl8
              have HS8 := hid (HS7.out.step hb8)
              have HA8 := hid ((HA7.out.step hb8).cons hl8)
              have HTL := hid (congrArg List.length HTI.out)
              rw [HTL.out]
              clear hl8 hb8 HS7 HA7
              go_wp2_with fail
              refine (ints_same _ _ aa _ _ cq c8 w8 (HA8.out.at 1 rfl).row (HA8.out.at 0 rfl).row (by omega)).mono ?_
              rintro e w9 ⟨rfl, n9, rfl⟩
              have hb9 : Below w8.heap.size w8 (w8.drewN n9) := below_drewN (Below.refl w8.heap.size w8) n9
              have HS9 := hid (HS8.out.step hb9)
              have HA9 := hid (HA8.out.step hb9)
              clear hb9 HS8 HA8
              generalize w8.drewN n9 = w9 at *
              have HAQ := hid (HAP.out w9 aq cq aa (by omega) (can_fits h4 HCAN.out) (HA9.out.at 1 rfl).row (HA9.out.at 3 rfl).row (HA9.out.at 4 rfl).row)
              rw [HNEAR.out, ← HWL.out] at HAQ
              have hwn : wl.length ≤ 65536 := by
                rw [HWL.out, pk_len]
                exact Nat.le_trans (Cod.cnt_le _ _) hnl
              obtain ⟨z0, z1, z2, z3⟩ := HS9.out.cells
              go_wp2_with fail
              refine HAQ.out.mono ?_
              rintro e w10 ⟨a10, c10, rfl, hl10, hb10⟩
              have HS10 := hid (HS9.out.step hb10)
              have HA10 := hid ((HA9.out.step hb10).cons hl10)
              clear hl10 hb10 HAQ z0 z1 z2 z3 HS9 HA9
              go_wp2_with fail
              refine (ints_same _ _ wl _ _ c10 cw w10 (HA10.out.at 0 rfl).row (HA10.out.at 3 rfl).row (by omega)).mono ?_
              rintro e w11 ⟨rfl, n11, rfl⟩
              go_wp2_with fail
              go_ret
              exact ⟨by first | rfl | (simp; omega), below_drewN HS10.out.below n11⟩
            | false =>
              rw [hnr] at HAO
              obtain ⟨z0, z1, z2, z3⟩ := HS3.out.cells
              go_wp2_with fail
              refine HAO.out.mono ?_
              rintro e w5 ⟨ax, cx, rfl, _, hb5⟩
              have HS5 := hid (HS3.out.step hb5)
              have HA5 := hid (HA3.out.step hb5)
              clear hb5 HAO z0 z1 z2 z3 HS3 HA3
              go_wp2_with fail
              refine (rtrim_any q c3 a3 os w5 h3 h4 (by omega) HF3.out (HA5.out.at 4 rfl)).mono ?_
              rintro e w6 ⟨a6, c6, rfl, hl6, hb6⟩
              have HS6 := hid (HS5.out.step hb6)
              have HA6 := hid (HA5.out.step hb6)
              have htol := Pol.trim_le q os
              have HII := hid (ints_any aa (Pol.trim q os) _ _ w6 (rowZ_of_B cq (HA6.out.at 0 rfl).row) (rowZ_of_B c6 hl6.row) (by omega) (by omega))
              clear hl6 hb6 HS5 HA5
              go_wp2_with fail
              refine HII.out.mono ?_
              rintro e w7 ⟨rfl, n7, rfl⟩
              have hb7 : Below w6.heap.size w6 (w6.drewN n7) := below_drewN (Below.refl w6.heap.size w6) n7
              have HS7 := hid (HS6.out.step hb7)
              have HA7 := hid (HA6.out.step hb7)
              clear hb7 HS6 HA6
              generalize w6.drewN n7 = w7 at *
              go_wp2_with fail
              refine (rtrim_any q cq aq aa w7 h3 h4 (by omega) (can_fits h4 HCAN.out) (HA7.out.at 0 rfl)).mono ?_
              rintro e w8 ⟨a8, c8, rfl, hl8, hb8⟩
              rw [HTI.out] at hl8
              have HS8 := hid (HS7.out.step hb8)
              have HA8 := hid ((HA7.out.step hb8).cons hl8)
              have HTL := hid (congrArg List.length HTI.out)
              rw [HTL.out]
              clear hl8 hb8 HS7 HA7
              go_wp2_with fail
              refine (ints_same _ _ aa _ _ cq c8 w8 (HA8.out.at 1 rfl).row (HA8.out.at 0 rfl).row (by omega)).mono ?_
              rintro e w9 ⟨rfl, n9, rfl⟩
              have hb9 : Below w8.heap.size w8 (w8.drewN n9) := below_drewN (Below.refl w8.heap.size w8) n9
              have HS9 := hid (HS8.out.step hb9)
              have HA9 := hid (HA8.out.step hb9)
              clear hb9 HS8 HA8
              generalize w8.drewN n9 = w9 at *
              have HAQ := hid (HAP.out w9 aq cq aa (by omega) (can_fits h4 HCAN.out) (HA9.out.at 1 rfl).row (HA9.out.at 3 rfl).row (HA9.out.at 4 rfl).row)
              rw [HNEAR.out, ← HWL.out] at HAQ
              have hwn : wl.length ≤ 65536 := by
                rw [HWL.out, pk_len]
                exact Nat.le_trans (Cod.cnt_le _ _) hnl
              obtain ⟨z0, z1, z2, z3⟩ := HS9.out.cells
              go_wp2_with fail
              refine HAQ.out.mono ?_
              rintro e w10 ⟨a10, c10, rfl, hl10, hb10⟩
              have HS10 := hid (HS9.out.step hb10)
              have HA10 := hid ((HA9.out.step hb10).cons hl10)
              clear hl10 hb10 HAQ z0 z1 z2 z3 HS9 HA9
              go_wp2_with fail
              refine (ints_same _ _ wl _ _ c10 cw w10 (HA10.out.at 0 rfl).row (HA10.out.at 3 rfl).row (by omega)).mono ?_
              rintro e w11 ⟨rfl, n11, rfl⟩
              go_wp2_with fail
              go_ret
              exact ⟨by first | rfl | (simp; omega), below_drewN HS10.out.below n11⟩
          · have g3 : ¬ (tp : Int) - 1 < (m : Int) := by omega
            have HS7 := HS3
            have HA7 := HA3
            clear HS3 HA3
            obtain ⟨w7, hw7⟩ : ∃ w7, w7 = w4 := ⟨_, rfl⟩
            rw [← hw7] at HS7 HA7 ⊢
            clear hw7
            go_wp2_with fail
            refine (rtrim_any q cq aq aa w7 h3 h4 (by omega) (can_fits h4 HCAN.out) (HA7.out.at 0 rfl)).mono ?_
            rintro e w8 ⟨a8, c8, rfl, hl8, hb8⟩
            rw [HTI.out] at hl8
            have HS8 := hid (HS7.out.step hb8)
            have HA8 := hid ((HA7.out.step hb8).cons hl8)
            have HTL := hid (congrArg List.length HTI.out)
            rw [HTL.out]
            clear hl8 hb8 HS7 HA7
            go_wp2_with fail
            refine (ints_same _ _ aa _ _ cq c8 w8 (HA8.out.at 1 rfl).row (HA8.out.at 0 rfl).row (by omega)).mono ?_
            rintro e w9 ⟨rfl, n9, rfl⟩
            have hb9 : Below w8.heap.size w8 (w8.drewN n9) := below_drewN (Below.refl w8.heap.size w8) n9
            have HS9 := hid (HS8.out.step hb9)
            have HA9 := hid (HA8.out.step hb9)
            clear hb9 HS8 HA8
            generalize w8.drewN n9 = w9 at *
            have HAQ := hid (HAP.out w9 aq cq aa (by omega) (can_fits h4 HCAN.out) (HA9.out.at 1 rfl).row (HA9.out.at 3 rfl).row (HA9.out.at 4 rfl).row)
            rw [HNEAR.out, ← HWL.out] at HAQ
            have hwn : wl.length ≤ 65536 := by
              rw [HWL.out, pk_len]
              exact Nat.le_trans (Cod.cnt_le _ _) hnl
            obtain ⟨z0, z1, z2, z3⟩ := HS9.out.cells
            go_wp2_with fail
            refine HAQ.out.mono ?_
            rintro e w10 ⟨a10, c10, rfl, hl10, hb10⟩
            have HS10 := hid (HS9.out.step hb10)
            have HA10 := hid ((HA9.out.step hb10).cons hl10)
            clear hl10 hb10 HAQ z0 z1 z2 z3 HS9 HA9
            go_wp2_with fail
            refine (ints_same _ _ wl _ _ c10 cw w10 (HA10.out.at 0 rfl).row (HA10.out.at 3 rfl).row (by omega)).mono ?_
            rintro e w11 ⟨rfl, n11, rfl⟩
            go_wp2_with fail
            go_ret
            exact ⟨by first | rfl | (simp; omega), below_drewN HS10.out.below n11⟩
      · have HDL := hid (dec_len m a1 a2 ws.length gs.length c1 c2 HS2.out.dom.da (by omega) (by omega) hnl hw)
        have hne : ((ws.length : Int) != (N : Int)) = true := by rw [bne_iff_ne]; omega
        clear hw
        refine HDL.out.mono ?_
        rintro e w3 ⟨rfl, rfl⟩
        go_wp2_with fail
        go_ret
        exact ⟨rfl, HS2.out.below⟩
    · have hk2' : k < 1 ∨ (¬ k < 1 ∧ (N : Int) < k) := by omega
      refine (dec_bound k a1 a2 ws.length gs.length c1 c2 HS2.out.dom.da hin hk1 hk2 hnl).mono ?_
      rintro e w3 ⟨rfl, rfl⟩
      clear hin
      rcases hk2' with g1 | ⟨g1, g2⟩
      · go_wp2_with fail
        go_ret
        exact ⟨rfl, HS2.out.below⟩
      · go_wp2_with fail
        go_ret
        exact ⟨rfl, HS2.out.below⟩
  · have HM := hid (made_no p n s w hL hgood hp1 hp2 hn1 hn2 hs1 hs2)
    clear hgood
    go_enter Tryd.func5, Tryd.ntmps5
    go_wp2_with fail
    refine HM.out.mono ?_
    rintro e w1 ⟨rfl, hb1⟩
    have HB1 := hid hb1
    clear hb1
    go_wp2_with fail
    go_ret
    exact ⟨rfl, HB1.out.alloc HB1.out.size _⟩

end Go.Proofs.YtbpkmhibdaafiadDoor
