/- Package fold: joined, folded, Fold. -/
import Derived.Test.YtfppkjpgihnibaaGreatDoorCods
import Derived.Test.YtfppkjpgihnibaaGreatDoorSpgs
import Derived.StillTailTactics
namespace Go.Proofs.YtfppkjpgihnibaaGreatDoor
open Go.RowKit

theorem joined_eq {p : Nat} (hp : Num.Prime p) (h3 : 3 ≤ p) {x : Int} (hx : ¬ (p : Int) ∣ x) (a b c : Int) :
    (x * ((a + b) % (p : Int)) % (p : Int) + c * ((a - b) % (p : Int)) % (p : Int)) % (p : Int) * (invn p (2 * x % (p : Int)) : Int) % (p : Int) = Fol.pairz p x a b c := by
  have h2 := Fol.two_nd h3
  have hx2 : ¬ (p : Int) ∣ x * 2 % (p : Int) := fun h => by
    have : (p : Int) ∣ x * 2 := by
      have := Int.dvd_sub h (Pol.emod_dvd p (x * 2))
      rwa [show x * 2 % (p : Int) - (x * 2 % (p : Int) - x * 2) = x * 2 from by omega] at this
    exact (Pol.prime_mul hp this).elim hx h2
  have i2 := invn_dvd hp h3 h2
  have ix := invn_dvd hp h3 hx2
  unfold Fol.pairz
  rw [Int.mul_comm 2 x]
  obtain ⟨I, hI⟩ : ∃ I : Int, I = (invn p 2 : Int) := ⟨_, rfl⟩
  obtain ⟨J, hJ⟩ : ∃ J : Int, J = (invn p (x * 2 % (p : Int)) : Int) := ⟨_, rfl⟩
  rw [← hI] at i2 ⊢
  rw [← hJ] at ix ⊢
  have ix2 : (p : Int) ∣ J * (x * 2) - 1 := Fol.dvdt (Fol.dvdm (Fol.dvd0 p J) (Fol.dvdn (Pol.emod_dvd p (x * 2)))) ix
  rw [Pol.emod_eq_iff (by omega)]
  have k1 : (p : Int) ∣ (x * ((a + b) % (p : Int)) % (p : Int) + c * ((a - b) % (p : Int)) % (p : Int)) % (p : Int) - (x * (a + b) + c * (a - b)) :=
    Fol.dvdt (Pol.emod_dvd p _) (Fol.dvda (Fol.dvdt (Pol.emod_dvd p _) (Fol.dvdm (Fol.dvd0 p x) (Pol.emod_dvd p _))) (Fol.dvdt (Pol.emod_dvd p _) (Fol.dvdm (Fol.dvd0 p c) (Pol.emod_dvd p _))))
  refine Fol.dvdt (Fol.dvdm k1 (Fol.dvd0 p J)) ?_
  -- (x (a + b) + c (a - b)) J against (a + b) I + (a - b) J c
  have k2 : (p : Int) ∣ x * J - I := by
    have e1 := Fol.dvdm (Fol.dvd0 p (x * J)) i2
    have e2 := Fol.dvdm ix2 (Fol.dvd0 p I)
    have e3 := Fol.dvds e2 e1
    rwa [show J * (x * 2) * I - x * J * (I * 2) - (1 * I - x * J * 1) = x * J - I from by grind] at e3
  have k3 := Fol.dvdm (Fol.dvd0 p (a + b)) k2
  rwa [show (a + b) * (x * J) - (a + b) * I = (x * (a + b) + c * (a - b)) * J - ((a + b) * I + (a - b) * J * c) from by grind] at k3

set_option maxRecDepth 100000 in
set_option maxHeartbeats 1000000 in
theorem fjoined_any (p f : Nat) (x a b c : Int) (w : World) (hpr : Num.Prime p) (h3 : 3 ≤ p) (hm : p ≤ 2147483647) (hp : w.cell? ⟨f, 0, none⟩ = some (.int .i64 p)) (hx : ¬ (p : Int) ∣ x) (hx0 : 0 ≤ x) (hx1 : x < p) (ha : -9223372036854775808 ≤ a) (ha2 : a ≤ 9223372036854775807) (hb : -9223372036854775808 ≤ b) (hb2 : b ≤ 9223372036854775807) (hc : -9223372036854775808 ≤ c) (hc2 : c ≤ 9223372036854775807) :
    Calls Tryz.prog 119 #[.pointer (some ⟨f, 0, none⟩), .int .i64 x, .int .i64 a, .int .i64 b, .int .i64 c] w fun e w' => e = .returned (.int .i64 (Fol.pairz p x a b c)) ∧ w' = w := by
  have HE := hid (joined_eq hpr h3 hx a b c)
  have H1 := hid (add_any p f a b w h3 hm hp ha ha2 hb hb2)
  have H2 := hid (sub_any p f a b w h3 hm hp ha ha2 hb hb2)
  obtain ⟨m1, m2⟩ := emod_bounds (a + b) p h3
  obtain ⟨m3, m4⟩ := emod_bounds (a - b) p h3
  generalize (a + b) % (p : Int) = s1 at *
  generalize (a - b) % (p : Int) = s2 at *
  have H3 := hid (mul_any p f x s1 w h3 hm hp (by omega) (by omega) (by omega) (by omega))
  have H4 := hid (mul_any p f c s2 w h3 hm hp hc hc2 (by omega) (by omega))
  obtain ⟨m5, m6⟩ := emod_bounds (x * s1) p h3
  obtain ⟨m7, m8⟩ := emod_bounds (c * s2) p h3
  generalize x * s1 % (p : Int) = s3 at *
  generalize c * s2 % (p : Int) = s4 at *
  have H5 := hid (add_any p f s3 s4 w h3 hm hp (by omega) (by omega) (by omega) (by omega))
  obtain ⟨m9, m10⟩ := emod_bounds (s3 + s4) p h3
  generalize (s3 + s4) % (p : Int) = s5 at *
  have H6 := hid (mul_any p f 2 x w h3 hm hp (by omega) (by omega) (by omega) (by omega))
  obtain ⟨m11, m12⟩ := emod_bounds (2 * x) p h3
  generalize 2 * x % (p : Int) = s6 at *
  have H7 := hid (div_any p f s5 s6 w hpr h3 hm hp (by omega) (by omega) (by omega) (by omega))
  rw [HE.out] at H7
  generalize Fol.pairz p x a b c = z at *
  clear HE hpr hx hp
  go_enter Tryz.func119, Tryz.ntmps119
  go_wp2_with fail
  refine H1.out.mono ?_
  rintro e w' ⟨rfl, rfl⟩
  go_wp2_with fail
  refine H3.out.mono ?_
  rintro e w' ⟨rfl, rfl⟩
  go_wp2_with fail
  refine H2.out.mono ?_
  rintro e w' ⟨rfl, rfl⟩
  go_wp2_with fail
  refine H4.out.mono ?_
  rintro e w' ⟨rfl, rfl⟩
  go_wp2_with fail
  refine H5.out.mono ?_
  rintro e w' ⟨rfl, rfl⟩
  go_wp2_with fail
  refine H6.out.mono ?_
  rintro e w' ⟨rfl, rfl⟩
  go_wp2_with fail
  refine H7.out.mono ?_
  rintro e w' ⟨rfl, rfl⟩
  go_wp2_with fail
  go_ret
  exact ⟨rfl, rfl⟩

set_option maxRecDepth 100000 in
set_option maxHeartbeats 1000000 in
/-- folded: what it writes lies in a block of its own, behind all that was there -/
theorem folded_any (p b d h cap n0 : Nat) (a : Option Addr) (r s c : Int) (word : List Int) (w : World) (D : DO w p b d (2 * h) r s) (hlen : word.length = 2 * h) (hf : Fits word) (hr : RowB n0 w a word) (hn0 : n0 ≤ w.heap.size) (hc : -9223372036854775808 ≤ c) (hc2 : c ≤ 9223372036854775807) :
    Calls Tryz.prog 91 #[.pointer (some ⟨d, 0, none⟩), .slice a word.length cap, .int .i64 c] w fun e w' =>
      e = .returned (.slice (some ⟨w.heap.size, 0, none⟩) h h) ∧ ArrI w' w.heap.size 3 h (zat (Fol.foldz p h r s word c)) ∧ Below w.heap.size w w' := by
  have hmx : Tryz.prog.follows .mixedOrders = true := by kernel_rfl
  have HD := hid D
  have HR := hid hr
  have HFW := hid hf
  have HLN := hid hlen
  have hbl := D.blt
  have hdl := D.dlt
  have hpos := D.pos
  have h3 := D.h3
  have hm := D.hm
  have hpr := hid D.pr
  have HC := hid D.cir
  have HS0 := hid (⟨D.hs0, D.hs1⟩ : 0 ≤ s ∧ s < p)
  obtain ⟨N, hN⟩ : ∃ N, N = 2 * h := ⟨_, rfl⟩
  rw [hlen, ← hN]
  rw [← hN] at hpos
  have HNN := hid hN
  have q0 : (N : Int) / 2 = (h : Int) := by omega
  have q1 : (N : Int).tdiv 2 = (h : Int) := by rw [hN]; rw [Int.tdiv_eq_ediv_of_nonneg (by omega)]; omega
  have q2 : IntKind.i64.wrap (h : Int) = (h : Int) := by rw [IntKind.wrap_i64]; omega
  have hhN : h ≤ N := by omega
  have hhN2 : (h : Int) ≤ (N : Int) := by omega
  obtain ⟨G, hG⟩ : ∃ G : Nat → Int, G = zat (Fol.foldz p h r s word c) := ⟨_, rfl⟩
  rw [← hG]
  have HG : Hid (∀ k, k < h → G k = Fol.pairz p (Dom.pt p s r k) (zat word k) (zat word (k + h)) c) := fun k hk => by rw [hG, Fol.foldz_at hk]
  have HSZ : Hid (∀ W, Below w.heap.size w W → Calls Tryz.prog 36 #[.pointer (some ⟨d, 0, none⟩)] W fun e w' => e = .returned (.int .i64 (N : Int)) ∧ w' = W) := fun W hB => by
    have := size_any d b _ r s W (HD.out.step hB).da
    rwa [← HNN.out] at this
  have HPT : Hid (∀ W, Below w.heap.size w W → Calls Tryz.prog 160 #[.pointer (some ⟨d, 0, none⟩)] W fun e w' => e = .returned (.slice (some ⟨W.heap.size, 0, none⟩) N N) ∧ w'.rowIs W.heap.size 3 N (fun j => .int .i64 (Dom.pt p s r j)) ∧ Below W.heap.size W w' ∧ w'.heap.size = W.heap.size + 1) := fun W hB => by
    have D2 := HD.out.step hB
    have := points_any p b d (2 * h) r s W D2.h3 D2.hm D2.hp D2.da D2.pos.2 D2.hr0 D2.hr1 D2.hs0 D2.hs1
    rwa [← HNN.out] at this
  have HFI : Hid (∀ W, Below w.heap.size w W → Calls Tryz.prog 59 #[.pointer (some ⟨d, 0, none⟩)] W fun e w' => e = .returned (.pointer (some ⟨b, 0, none⟩)) ∧ w' = W) := fun W hB => dfield_any d b _ r s W (HD.out.step hB).da
  have HJO : Hid (∀ (W : World) (x y z : Int), Below w.heap.size w W → ¬ (p : Int) ∣ x → 0 ≤ x → x < p → -9223372036854775808 ≤ y → y ≤ 9223372036854775807 → -9223372036854775808 ≤ z → z ≤ 9223372036854775807 → Calls Tryz.prog 119 #[.pointer (some ⟨b, 0, none⟩), .int .i64 x, .int .i64 y, .int .i64 z, .int .i64 c] W fun e w' => e = .returned (.int .i64 (Fol.pairz p x y z c)) ∧ w' = W) :=
    fun W x y z hB hx hx0 hx1 hy hy2 hz hz2 => fjoined_any p b x y z c W hpr.out h3 hm (HD.out.step hB).hp hx hx0 hx1 hy hy2 hz hz2 hc hc2
  have hmk2 := fun w => run_make_row' (P := Tryz.prog) 22 3 (.int .i64 0) 8 Tryz.underlying22 Tryz.infoInt rfl .i64 .i64 h (by omega) (by omega) w
  clear hlen hN hG hr hf D hc hc2
  go_enter Tryz.func91, Tryz.ntmps91
  go_wp2_with fail
  refine (HSZ.out _ (Below.refl _ _)).mono ?_
  rintro e w1 ⟨rfl, rfl⟩
  go_wp2_with fail
  have hal : (w1.alloc (.cells (madeCells #[.int .i64 0] h) 3)).heap.size = w1.heap.size + 1 := by simp
  have HB1 : Hid (Below w1.heap.size w1 (w1.alloc (.cells (madeCells #[.int .i64 0] h) 3))) := (Below.refl _ _).alloc (Nat.le_refl _) _
  have HA1 : Hid (ArrI (w1.alloc (.cells (madeCells #[.int .i64 0] h) 3)) w1.heap.size 3 h (fun _ => 0)) := World.rowIs_made _ _ _ _
  have HAL := hid hal
  clear hal
  refine (HPT.out _ HB1.out).mono ?_
  generalize w1.alloc (.cells (madeCells #[.int .i64 0] h) 3) = W1 at *
  rintro e w2 ⟨rfl, hrow, hb2, _⟩
  have HRW := hid hrow
  have HB2 := hid (HB1.out.trans (hb2.mono HB1.out.size))
  have HA2 := hid (HA1.out.below hb2 HA1.out.lt)
  clear hrow hb2 HB1 HA1
  go_wp2_with fail
  go_loopw [21] (fun iv wr => ∃ k : Nat, k ≤ h ∧ iv = .int .i64 k ∧ Hid (ArrI wr w1.heap.size 3 h (fll G (fun _ => 0) k) ∧ wr.rowIs W1.heap.size 3 N (fun j => .int .i64 (Dom.pt p s r j)) ∧ Below w1.heap.size w1 wr)) (fun iv _ => h - (intOf iv).toNat)
  case atStart => exact ⟨0, by omega, rfl, by rw [fll_zero]; exact HA2.out, HRW.out, HB2.out⟩
  case round =>
    obtain ⟨k, hk, rfl, hI⟩ := hrel
    by_cases hlt : k < h
    · have hlt2 : (k : Int) < (h : Int) := by omega
      have hkN : (k : Int) < (N : Int) := by omega
      have hks : IntKind.i64.wrap ((k : Int) + 1) = (k : Int) + 1 := by rw [IntKind.wrap_i64]; omega
      obtain ⟨bt, ot, rfl, hb, hc⟩ := HR.out k (by rw [HLN.out]; omega)
      obtain ⟨_, _, e1, _, hd⟩ := HR.out (k + h) (by rw [HLN.out]; omega)
      cases e1
      have hc2 := (hI.out.2.2.cell (p := ⟨bt, ot + k, none⟩) (show bt < w1.heap.size by omega)).trans hc
      have hd2 := (hI.out.2.2.cell (p := ⟨bt, ot + (k + h), none⟩) (show bt < w1.heap.size by omega)).trans hd
      have hx2 := hI.out.2.1.cell (show k < N by omega)
      obtain ⟨f1, f2⟩ := HFW.out.all k
      obtain ⟨g1, g2⟩ := HFW.out.all (k + h)
      have HGk : Hid (G k = Fol.pairz p (Dom.pt p s r k) (zat word k) (zat word (k + h)) c) := HG.out k hlt
      obtain ⟨kh, hkh⟩ : ∃ kh, kh = k + h := ⟨_, rfl⟩
      have k1 : IntKind.i64.wrap ((k : Int) + (h : Int)) = (kh : Int) := by rw [IntKind.wrap_i64]; omega
      have k0 : (k : Int) + (h : Int) = (kh : Int) := by omega
      have k3 : IntKind.i64.wrap (kh : Int) = (kh : Int) := by rw [IntKind.wrap_i64]; omega
      have k2 : (kh : Int) < (N : Int) := by have := HNN.out; omega
      rw [← hkh] at hd2 g1 g2 HGk
      have hpb : 0 ≤ Dom.pt p s r k ∧ Dom.pt p s r k < p := emod_bounds (s * r ^ k) p h3
      have hnd := HC.out.pt_nd k
      generalize zat word k = x at *
      generalize zat word kh = y at *
      generalize Dom.pt p s r k = z at *
      have HFD := hid (HFI.out wr.drew hI.out.2.2.drew)
      have HJ := hid (HJO.out wr.drew z x y hI.out.2.2.drew hnd hpb.1 hpb.2 f1 f2 g1 g2)
      rw [← HGk.out] at HJ
      have c1 := hI.out.1.cell hlt
      have y1 := hI.out.1.frozen k
      have HE : Hid (ArrI (wr.setCell ⟨w1.heap.size, k, none⟩ (.int .i64 (G k))).drew w1.heap.size 3 h (fll G (fun _ => 0) (k + 1)) ∧ (wr.setCell ⟨w1.heap.size, k, none⟩ (.int .i64 (G k))).drew.rowIs W1.heap.size 3 N (fun j => .int .i64 (Dom.pt p s r j)) ∧ Below w1.heap.size w1 (wr.setCell ⟨w1.heap.size, k, none⟩ (.int .i64 (G k))).drew) :=
        ⟨hI.out.1.next, hI.out.2.1.setOther (by show W1.heap.size ≠ w1.heap.size; have := HAL.out; omega) _, (hI.out.2.2.setCell (p := ⟨w1.heap.size, k, none⟩) (by simp) _).drew⟩
      generalize G k = gk at *
      generalize fll G (fun _ => 0) k k = y0 at *
      clear hI hc hd hkh HGk hb hnd hpb
      go_wp2_with fail
      go_still_tail 17, hmx
      still_call HFD.out
      repeat still_step
      still_call HJ.out
      repeat still_step
      refine wpStill_nil ?_
      go_wp2_with fail
      go_roundw
      case rel => exact ⟨k + 1, by omega, by go_num, HE⟩
      case measure => simp [intOf]; omega
    · obtain rfl : k = h := by omega
      have hlt2 : ¬ (k : Int) < (k : Int) := by omega
      have HE : Hid (ArrI wr w1.heap.size 3 k G ∧ Below w1.heap.size w1 wr) := ⟨hI.out.1.congr (fun j hj => fll_all hj), hI.out.2.2⟩
      clear hI
      go_wp2_with fail
      go_ret
      exact ⟨rfl, HE.out⟩

theorem lst_arr {w : World} {g n : Nat} {f : Nat → Int} {zs : List Int} (h : ArrI w g 3 n f) (hl : zs.length = n) (hz : ∀ j, j < n → zat zs j = f j) : Lst w.heap.size w (some ⟨g, 0, none⟩) n zs :=
  ⟨fun k hk => ⟨g, 0, rfl, h.lt, by rw [Nat.zero_add, h.cell (by omega), hz k (by omega)]⟩, by omega, fun e => by cases e⟩

end Go.Proofs.YtfppkjpgihnibaaGreatDoor
