/- The law CodeApart answers true: two unlike polynomials of low degree differ at nearly all points. -/
import Derived.Test.YtbpkmhibdaafiadApartP
import Derived.Test.YtbpkmhibdaafiadLawDValues
namespace Go.Proofs.Ytbpkmhibdaafiad
open Go.RowKit

theorem DO.of' {w : World} {q k b d r : Nat} {s : Int} (hg : GoodAt q k s) (hr : RootIs q ((2 ^ k : Nat) : Int) r) (hc : w.cell? ⟨b, 0, none⟩ = some (.int .i64 q)) (hd : DomAt w d b ((2 ^ k : Nat) : Int) r (s % (q : Int))) : DO w q b d (2 ^ k) r (s % (q : Int)) := by
  obtain ⟨h1, h2⟩ := root_ord2 hg.pr hg.h3 hg.hd hr
  obtain ⟨t0, t1⟩ := emod_bounds s q hg.h3
  exact ⟨hg.pr, hg.h3, hg.h4, hc, hd, ⟨k, hg.hk, rfl⟩, by omega, by omega, h1, t0, t1, not_dvd_of_emod hg.hs⟩

/-- what Encode answers, whatever it is asked -/
theorem enc_all {w : World} {p b d n : Nat} {r s : Int} (D : DO w p b d n r s) (k : Int) (a : Option Addr) (cap : Nat) (zs : List Int) (hk1 : -9223372036854775808 ≤ k) (hk2 : k ≤ 9223372036854775807) (hlen : zs.length ≤ 281474976710656) (hfit : Fits zs) (hrow : RowB w.heap.size w a zs) :
    Calls Try.prog 6 #[.pointer (some ⟨d, 0, none⟩), .int .i64 k, .slice a zs.length cap] w fun e w' =>
      (1 ≤ k ∧ k ≤ n ∧ (tpn p (zat zs) zs.length : Int) ≤ k ∧ e = .returned (.tuple #[.slice (some ⟨w.heap.size, 0, none⟩) n n, .nilIface]) ∧ w'.rowIs w.heap.size 3 n (fun j => .int .i64 (evz p zs (Dom.pt p s r j))) ∧ Below w.heap.size w w' ∧ w.heap.size < w'.heap.size) ∨
      (∃ c : Int, e = .returned (.tuple #[.slice none 0 0, .iface 42 (.int .i64 c)]) ∧ w' = w) := by
  have hn := D.pos.2
  by_cases h : 1 ≤ k ∧ k ≤ n
  · obtain ⟨h1, h2⟩ := h
    obtain ⟨m, rfl⟩ := Int.eq_ofNat_of_zero_le (show 0 ≤ k by omega)
    by_cases hd : tpn p (zat zs) zs.length ≤ m
    · exact (enc_any D m a cap zs (by omega) (by omega) hlen hfit hrow hd).mono fun e w' h => Or.inl ⟨h1, h2, by omega, h⟩
    · exact (enc_size D m a cap zs (by omega) (by omega) hlen hfit hrow (by omega)).mono fun e w' h => Or.inr ⟨2, h⟩
  · exact (enc_range k a zs.length cap D.da h hk1 hk2 hn).mono fun e w' h => Or.inr ⟨3, h⟩

set_option maxRecDepth 1000000 in
set_option maxHeartbeats 4000000 in
theorem apart_walk (p n s k : Int) (a1 a2 : Option Addr) (c1 c2 : Nat) (xs ys : List Int) (w : World) (hp1 : -9223372036854775808 ≤ p) (hp2 : p ≤ 9223372036854775807) (hn1 : -9223372036854775808 ≤ n) (hn2 : n ≤ 9223372036854775807) (hs1 : -9223372036854775808 ≤ s) (hs2 : s ≤ 9223372036854775807) (hk1 : -9223372036854775808 ≤ k) (hk2 : k ≤ 9223372036854775807)
    (hlx : xs.length ≤ 17592186043904) (hly : ys.length ≤ 17592186043904) (hf1 : Fits xs) (hf2 : Fits ys) (hl1 : RowB w.heap.size w a1 xs) (hl2 : RowB w.heap.size w a2 ys) :
    Calls Try.prog 3 #[.int .i64 p, .int .i64 n, .int .i64 s, .int .i64 k, .slice a1 xs.length c1, .slice a2 ys.length c2] w fun e w' => e = .returned (.bool true) ∧ Below w.heap.size w w' := by
  have HF1 := hid hf1
  have HF2 := hid hf2
  have HR1 := hid hl1
  have HR2 := hid hl2
  clear hf1 hf2 hl1 hl2
  go_enter Try.func3, Try.ntmps3
  go_wp2_with fail
  refine (lives2_any w).mono ?_
  rintro e w1 ⟨rfl, hb1⟩
  have HB1 := hid hb1
  have HA1 : Hid (Alive w1 [(a1, xs), (a2, ys)]) := ((Alive.nil w1).cons ((HR2.out.below hb1).mono hb1.size)).cons ((HR1.out.below hb1).mono hb1.size)
  clear hb1 HR1 HR2
  by_cases hgood : Good p n s
  · obtain ⟨q, kk, rfl, rfl, hg⟩ := hgood
    have HG := hid hg
    obtain ⟨hpr, h3, h4, hk, hd, hs⟩ := hg
    have hnl := two_pow_le hk
    clear hpr hd hs hp1 hp2 hn1 hn2 hk
    have HPY := hid (plain_yes q kk s w1 HG.out hs1 hs2)
    have HDO : Hid (∀ (W : World) (b d r : Nat), RootIs q ((2 ^ kk : Nat) : Int) r → W.cell? ⟨b, 0, none⟩ = some (.int .i64 q) → DomAt W d b ((2 ^ kk : Nat) : Int) r (s % (q : Int)) → DO W q b d (2 ^ kk) r (s % (q : Int))) := fun W b d r z1 z2 z3 => DO.of' HG.out z1 z2 z3
    generalize 2 ^ kk = N at *
    go_wp2_with fail
    refine HPY.out.mono ?_
    rintro e w2 ⟨d, r, rfl, hr, hc2, hda, hb2⟩
    have HD2 := hid (HDO.out w2 w1.heap.size d r hr hc2 hda)
    have HB2 : Hid (Below w.heap.size w w2) := HB1.out.trans (hb2.mono HB1.out.size)
    have HA2 := hid (HA1.out.step hb2)
    generalize s % (q : Int) = t at *
    clear hr hc2 hda hb2 HPY HDO HA1 HB1
    go_wp2_with fail
    refine (enc_all HD2.out k a1 c1 xs hk1 hk2 (by omega) HF1.out (HA2.out.at 0 rfl)).mono ?_
    rintro e w3 (⟨g1, g2, g3, rfl, hri3, hb3, hlt3⟩ | ⟨c, rfl, rfl⟩)
    · have HD3 := hid (HD2.out.step hb3)
      have HB3 : Hid (Below w.heap.size w w3) := HB2.out.trans (hb3.mono HB2.out.size)
      have HX3 := hid hri3
      have HA3 := hid (HA2.out.step hb3)
      clear hri3 hb3 HA2 HB2
      go_wp2_with fail
      refine (enc_all HD3.out k a2 c2 ys hk1 hk2 (by omega) HF2.out (HA3.out.at 1 rfl)).mono ?_
      rintro e w4 (⟨_, _, g6, rfl, hri4, hb4, hlt4⟩ | ⟨c, rfl, rfl⟩)
      · have HD4 := hid (HD3.out.step hb4)
        have HB4 : Hid (Below w.heap.size w w4) := HB3.out.trans (hb4.mono HB3.out.size)
        have HX4 : Hid (RowB w4.heap.size w4 (some ⟨w2.heap.size, 0, none⟩) (ls (fun j => evz q xs (Dom.pt q t r j)) N)) := rowB_of_F (HX3.out.of_block (hb4.block _ hlt3)) (Nat.le_refl _) (fun _ _ => rfl) (by have := hb4.size; omega)
        have HY4 : Hid (RowB w4.heap.size w4 (some ⟨w3.heap.size, 0, none⟩) (ls (fun j => evz q ys (Dom.pt q t r j)) N)) := rowB_of_F hri4 (Nat.le_refl _) (fun _ _ => rfl) hlt4
        have HA4 : Hid (Alive w4 [(some ⟨w2.heap.size, 0, none⟩, ls (fun j => evz q xs (Dom.pt q t r j)) N), (some ⟨w3.heap.size, 0, none⟩, ls (fun j => evz q ys (Dom.pt q t r j)) N), (a1, xs), (a2, ys)]) := ((HA3.out.step hb4).cons HY4.out).cons HX4.out
        clear hri4 hb4 HX3 HX4 HY4 HA3 HB3 hlt3 hlt4
        obtain ⟨m, rfl⟩ := Int.eq_ofNat_of_zero_le (show 0 ≤ k by omega)
        have HSAME : Hid ((Pol.psub q xs ys).length = 0 → dist q (ls (fun j => evz q xs (Dom.pt q t r j)) N) (ls (fun j => evz q ys (Dom.pt q t r j)) N) = 0) := fun h => same_dist h3 r t xs ys h
        have HAP : Hid (0 < (Pol.psub q xs ys).length → N < dist q (ls (fun j => evz q xs (Dom.pt q t r j)) N) (ls (fun j => evz q ys (Dom.pt q t r j)) N) + m) := fun h => apart_dist HD4.out.pr h3 HD4.out.ord HD4.out.hsd xs ys (by omega) (by omega) h
        have HFX : Hid (Fits (ls (fun j => evz q xs (Dom.pt q t r j)) N) ∧ Fits (ls (fun j => evz q ys (Dom.pt q t r j)) N)) :=
          ⟨fun j hj => by rw [ls_len] at hj; rw [ls_at _ _ _ hj]; have := evz_bounds q xs (Dom.pt q t r j) h3; omega, fun j hj => by rw [ls_len] at hj; rw [ls_at _ _ _ hj]; have := evz_bounds q ys (Dom.pt q t r j) h3; omega⟩
        have HXL : Hid ((ls (fun j => evz q xs (Dom.pt q t r j)) N).length = N ∧ (ls (fun j => evz q ys (Dom.pt q t r j)) N).length = N) := ⟨ls_len _ _, ls_len _ _⟩
        generalize ls (fun j => evz q xs (Dom.pt q t r j)) N = X at *
        generalize ls (fun j => evz q ys (Dom.pt q t r j)) N = Y at *
        have HPS := hid (psub_any q w1.heap.size c1 c2 (· < w4.heap.size) a1 a2 xs ys w4 h3 h4 HD4.out.hp (by omega) (by omega) HF1.out HF2.out (HA4.out.at 2 rfl) (HA4.out.at 3 rfl) (fun _ h => h))
        go_wp2_with fail
        refine HPS.out.mono ?_
        rintro e w5 ⟨cs, rfl, _, _, hb5, _⟩
        have HD5 := hid (HD4.out.step hb5)
        have HB5 : Hid (Below w.heap.size w w5) := HB4.out.trans (hb5.mono HB4.out.size)
        have HA5 := hid (HA4.out.step hb5)
        have HCD := hid (cdist_any q w1.heap.size N N (some ⟨w2.heap.size, 0, none⟩) (some ⟨w3.heap.size, 0, none⟩) X Y w5 h3 h4 HD5.out.hp (by rw [HXL.out.1]; omega) (by rw [HXL.out.2]; omega) HFX.out.1 HFX.out.2 (HA5.out.at 0 rfl) (HA5.out.at 1 rfl))
        rw [HXL.out.1, HXL.out.2] at HCD
        clear hb5 HPS HA4 HB4 HD4
        go_wp2_with fail
        refine HCD.out.mono ?_
        rintro e w6 ⟨rfl, n6, rfl⟩
        have hdl : dist q X Y ≤ 65536 := by
          unfold dist
          rw [HXL.out.1, HXL.out.2, Nat.max_self]
          exact Nat.le_trans (Cod.cnt_le _ _) hnl
        have hcl : (Pol.psub q xs ys).length ≤ 17592186043904 := by have := Pol.psub_le q xs ys; omega
        by_cases hz : (Pol.psub q xs ys).length = 0
        · have hdz : dist q X Y = 0 := HSAME.out hz
          have hzb : (((Pol.psub q xs ys).length : Int) == 0) = true := by rw [hz]; rfl
          rw [hdz]
          clear hz hdz HSAME HAP
          go_wp2_with fail
          go_ret
          exact ⟨rfl, below_drewN HB5.out _⟩
        · have hfar := HAP.out (by omega)
          have hzb : (((Pol.psub q xs ys).length : Int) == 0) = false := by rw [beq_eq_false_iff_ne]; omega
          have hge : (N : Int) - (m : Int) + 1 ≤ (dist q X Y : Int) := by omega
          clear hz HSAME HAP
          go_wp2_with fail
          go_ret
          exact ⟨by first | rfl | (simp; omega), below_drewN HB5.out _⟩
      · go_wp2_with fail
        go_ret
        exact ⟨rfl, HB3.out⟩
    · go_wp2_with fail
      refine (enc_all HD2.out k a2 c2 ys hk1 hk2 (by omega) HF2.out (HA2.out.at 1 rfl)).mono ?_
      rintro e w4 (⟨_, _, g6, rfl, hri4, hb4, hlt4⟩ | ⟨c', rfl, rfl⟩)
      · have HB4 : Hid (Below w.heap.size w w4) := HB2.out.trans (hb4.mono HB2.out.size)
        clear hri4 hb4
        go_wp2_with fail
        go_ret
        exact ⟨rfl, HB4.out⟩
      · go_wp2_with fail
        go_ret
        exact ⟨rfl, HB2.out⟩
  · have HPN := hid (plain_no p n s w1 hgood hp1 hp2 hn1 hn2 hs1 hs2)
    clear hgood
    go_wp2_with fail
    refine HPN.out.mono ?_
    rintro e w2 ⟨rfl, hb2⟩
    have HB2 : Hid (Below w.heap.size w w2) := HB1.out.trans (hb2.mono HB1.out.size)
    clear hb2
    go_wp2_with fail
    go_ret
    exact ⟨rfl, HB2.out⟩

end Go.Proofs.Ytbpkmhibdaafiad
