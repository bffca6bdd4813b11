/- The law RulesAlike answers true: whether pairs are the same ones in both orders, and their products. -/
import Derived.Test.YtaibngnabhmabakDoorBaAP
import Derived.Test.YtaibngnabhmabakDoorFld
namespace Go.Proofs.YtaibngnabhmabakDoor
open Go.RowKit

set_option maxRecDepth 100000 in
set_option maxHeartbeats 4000000 in
theorem ralike_walk (p x y : Int) (a1 : Option Addr) (c1 : Nat) (rows : List (List Int)) (w : World) (hLd : Laid w) (hp1 : -9223372036854775808 ≤ p) (hp2 : p ≤ 9223372036854775807)
    (hx1 : -9223372036854775808 ≤ x) (hx2 : x ≤ 9223372036854775807) (hy1 : -9223372036854775808 ≤ y) (hy2 : y ≤ 9223372036854775807) (hL : LstR w.heap.size w a1 c1 rows) (hF : FitsR rows) (hn : rows.length ≤ 1048576) :
    Calls Tryd.prog 3 #[.int .i64 p, .slice a1 rows.length c1, .int .i64 x, .int .i64 y] w fun e w' => e = .returned (.bool true) ∧ Below w.heap.size w w' := by
  by_cases hok : okPrime p
  · obtain ⟨q, rfl⟩ := Int.eq_ofNat_of_zero_le (show 0 ≤ p by have := hok.1; omega)
    obtain ⟨hq3, hq4, hqp⟩ := hok
    rw [Int.toNat_natCast] at hqp
    have h3 : 3 ≤ q := by omega
    have h4 : q ≤ 2147483647 := by omega
    have HP := hid hqp
    have HL0 := hid hL
    have HF := hid hF
    obtain ⟨n, hn'⟩ : ∃ n, n = rows.length := ⟨_, rfl⟩
    have HN := hid hn'
    rw [← hn'] at hn ⊢
    clear hqp hLd hL hF hq3 hq4 hp1 hp2 hn'
    go_enter Tryd.func3, Tryd.ntmps3
    go_wp2_with fail
    refine (field_yes q w h3 h4 HP.out).mono ?_
    rintro e w1 ⟨rfl, hc1, hb1, hlt1⟩
    obtain ⟨fb, hfb⟩ : ∃ fb, fb = w.heap.size := ⟨_, rfl⟩
    have HB1 := hid hb1
    rw [← hfb] at hc1 hlt1 ⊢
    have HC1 := hid hc1
    have HL := hid ((HL0.out.below hb1).mono hb1.size)
    have HCP := hid (copied_any c1 a1 rows w1 (by rw [← HN.out]; omega) (fun k hk => by have := (HF.out k hk).2; omega) HL.out)
    rw [← HN.out] at HCP
    clear hc1 hb1 HL0 hfb
    go_wp2_with fail
    refine HCP.out.mono ?_
    rintro e w2 ⟨v0, rfl, hO, hb2⟩
    obtain ⟨ao, co, rfl, hlo⟩ := hO.lst
    rw [← HN.out]
    have HB12 := hid hb2
    have HLO := hid hlo
    have HBB : Hid (∀ W, Below w2.heap.size w2 W → Below w1.heap.size w1 W ∧ Below w.heap.size w W) := fun W h => by
      have h1 := HB12.out.trans (h.mono HB12.out.size)
      exact ⟨h1, HB1.out.trans (h1.mono HB1.out.size)⟩
    have hfp : ∀ W, Below w2.heap.size w2 W → W.cell? ⟨fb, 0, none⟩ = some (.int .i64 q) := fun W h => ((HBB.out W h).1.cell (p := ⟨fb, 0, none⟩) hlt1).trans HC1.out
    have HLs : Hid (∀ W, Below w2.heap.size w2 W → LstR W.heap.size W ao co rows ∧ LstR W.heap.size W a1 c1 rows) := fun W h =>
      ⟨(HLO.out.below h).mono h.size, (HL.out.below (HBB.out W h).1).mono (HBB.out W h).1.size⟩
    have HA1 := hid (palike_any q fb co ao rows w2 h3 h4 (hfp w2 (Below.refl _ _)) HLO.out HF.out (by rw [← HN.out]; omega))
    have HA2 := hid (fun (W : World) (h : Below w2.heap.size w2 W) => ralike_any q c1 a1 rows W h3 h4 (HLs.out W h).2 HF.out (by rw [← HN.out]; omega))
    have HD1 := hid (fun (W : World) (h : Below w2.heap.size w2 W) => pproduct_all q fb co ao rows x y W HP.out h3 h4 (hfp W h) (HLs.out W h).1 HF.out (by rw [← HN.out]; omega) hx1 hx2 hy1 hy2)
    have HD2 := hid (fun (W : World) (h : Below w2.heap.size w2 W) => rproduct_any q c1 a1 rows x y W h3 h4 (HLs.out W h).2 HF.out (by rw [← HN.out]; omega) hx1 hx2 hy1 hy2)
    have HRW := hid (fun (W : World) (h : Below w2.heap.size w2 W) => srows_any co c1 ao a1 rows rows W.heap.size W.heap.size W (by rw [← HN.out]; omega) (by rw [← HN.out]; omega) (fun k hk => by have := (HF.out k hk).2; omega) (fun k hk => by have := (HF.out k hk).2; omega) (HLs.out W h).1 (HLs.out W h).2)
    rw [decide_eq_true rfl] at HRW
    rw [← HN.out] at HA1 HA2 HD1 HD2 HRW
    generalize alkB q rows = al at *
    have hal : (al == al) = true := by simp
    clear hO hlo hb2 hfp HLs HCP HL HLO HB12
    go_wp2_with fail
    refine HA1.out.mono ?_
    rintro e w3 ⟨rfl, hb3⟩
    have H3 := hid hb3
    clear HA1 hb3
    go_wp2_with fail
    refine (HA2.out w3 H3.out).mono ?_
    rintro e w4 ⟨rfl, hb4⟩
    have H4 := hid (H3.out.trans (hb4.mono H3.out.size))
    clear HA2 hb4 H3
    go_wp2_with fail
    refine (HD1.out w4 H4.out).mono ?_
    intro e w5 he5
    have H5 := hid (H4.out.trans (he5.1.mono H4.out.size))
    have HR2 := hid (HD2.out w5 H5.out)
    clear HD1 HD2 H4
    obtain ⟨e5, hee⟩ : ∃ e5, e5 = e := ⟨_, rfl⟩
    have HE5 : Hid (PdR q rows x y w4 e w5) := he5
    rcases he5.2 with ⟨hnz, b1, d1, rfl, hl1⟩ | ⟨hnz, rfl⟩
    · rw [← HN.out]
      have HL1 := hid hl1
      clear hl1 hnz he5 hee
      go_wp2_with fail
      refine HR2.out.mono ?_
      intro e w6 he6
      have H6 := hid (H5.out.trans (he6.1.mono H5.out.size))
      have HB56 := hid he6.1
      rcases he6.2 with ⟨_, b2, d2, rfl, hl2⟩ | ⟨hno, _⟩
      · rw [← HN.out]
        have HIN : Hid (Calls Tryd.prog 11 #[.slice b1 n d1, .slice b2 n d2] w6 fun e w' => e = .returned (.bool true) ∧ ∃ k, w' = w6.drewN k) := by
          unfold Hid
          have h := ints_any (ls (pcol q rows x y) rows.length) (ls (pcol q rows x y) rows.length) _ _ w6 (rowZ_of_B d1 ((HL1.out.below HB56.out).mono HB56.out.size).row) (rowZ_of_B d2 hl2.row) (by rw [ls_len, ← HN.out]; omega) (by rw [ls_len, ← HN.out]; omega)
          rw [decide_eq_true rfl, ls_len, ← HN.out] at h
          exact h
        clear he6 hl2 HR2 HE5 H5 HB56 HL1
        go_wp2_with fail
        refine HIN.out.mono ?_
        rintro e w7 ⟨rfl, k7, rfl⟩
        have H7 := hid (below_drewN H6.out k7)
        generalize w6.drewN k7 = w7 at *
        clear HIN H6
        go_wp2_with fail
        refine (HRW.out w7 H7.out).mono ?_
        rintro e w8 ⟨rfl, k8, rfl⟩
        have HB8 := hid (HBB.out _ (below_drewN H7.out k8)).2
        go_wp2_with fail
        go_ret
        exact ⟨by first | rfl | simp, HB8.out⟩
      · obtain ⟨_, h⟩ := HE5.out
        rcases h with ⟨hy, _⟩ | ⟨_, h⟩
        · exact absurd hy hno
        · exact absurd h (by simp)
    · clear he5 hee
      go_wp2_with fail
      refine HR2.out.mono ?_
      intro e w6 he6
      have H6 := hid (H5.out.trans (he6.1.mono H5.out.size))
      rcases he6.2 with ⟨hyes, _⟩ | ⟨_, rfl⟩
      · exact absurd hyes hnz
      · have HIN : Hid (Calls Tryd.prog 11 #[.slice none 0 0, .slice none 0 0] w6 fun e w' => e = .returned (.bool true) ∧ ∃ k, w' = w6.drewN k) := by
          unfold Hid
          have h := ints_any [] [] _ _ w6 (rowZ_of_B 0 (Lst.none w6.heap.size w6).row) (rowZ_of_B 0 (Lst.none w6.heap.size w6).row) (by simp) (by simp)
          exact h
        clear he6 HR2 HE5 H5 hnz
        go_wp2_with fail
        refine HIN.out.mono ?_
        rintro e w7 ⟨rfl, k7, rfl⟩
        have H7 := hid (below_drewN H6.out k7)
        generalize w6.drewN k7 = w7 at *
        clear HIN H6
        go_wp2_with fail
        refine (HRW.out w7 H7.out).mono ?_
        rintro e w8 ⟨rfl, k8, rfl⟩
        have HB8 := hid (HBB.out _ (below_drewN H7.out k8)).2
        go_wp2_with fail
        go_ret
        exact ⟨by first | rfl | simp, HB8.out⟩
  · have HN := hid hok
    clear hok hL hF
    go_enter Tryd.func3, Tryd.ntmps3
    go_wp2_with fail
    refine (field_no p w hLd HN.out hp1 hp2).mono ?_
    rintro e w1 ⟨rfl, hb1⟩
    have HB1 := hid hb1
    clear hb1
    go_wp2_with fail
    go_ret
    exact ⟨rfl, HB1.out⟩

end Go.Proofs.YtaibngnabhmabakDoor
