/- FoldCatches: the walk. -/
import Derived.Test.YtbbjbhiihfnkmahLawOKeeps
import Derived.Test.YtbbjbhiihfnkmahSitC
namespace Go.Proofs.Ytbbjbhiihfnkmah
open Go.RowKit

theorem foldz_fits {p : Nat} (h3 : 3 ≤ p) (hm : p ≤ 2147483647) (m : Nat) (r s : Int) (word : List Int) (c : Int) : Fits (Fol.foldz p m r s word c) := fun j hj => by
  rw [Fol.foldz_len] at hj
  rw [Fol.foldz_at hj]
  have := Fol.pairz_bounds p (Dom.pt p s r j) (zat word j) (zat word (j + m)) c h3
  omega

set_option maxRecDepth 100000 in
set_option maxHeartbeats 4000000 in
theorem ocatches_good (FD : FldAs) (q k : Nat) (s kk : Int) (a3 : Option Addr) (c3 : Nat) (zs : List Int) (x y : Int) (w : World) (hg : GoodAt q (k + 1) s) (hs1 : -9223372036854775808 ≤ s) (hs2 : s ≤ 9223372036854775807) (hk1 : -9223372036854775808 ≤ kk) (hk2 : kk ≤ 9223372036854775807) (hlen : zs.length ≤ 17592186043904) (hfit : Fits zs) (hl : Lst w.heap.size w a3 c3 zs) (hx1 : -9223372036854775808 ≤ x) (hx2 : x ≤ 9223372036854775807) (hy1 : -9223372036854775808 ≤ y) (hy2 : y ≤ 9223372036854775807) :
    Calls Try.prog 4 #[.int .i64 q, .int .i64 ((2 ^ (k + 1) : Nat) : Int), .int .i64 s, .int .i64 kk, .slice a3 zs.length c3, .int .i64 x, .int .i64 y] w fun e w' => e = .returned (.bool true) ∧ Below w.heap.size w w' := by
  have HFD := hid FD
  have HL := hid hl
  have HFT := hid hfit
  have h3 := hg.h3
  have h4 := hg.h4
  have hk := two_pow_le hg.hk
  have h2k : 2 ^ (k + 1) = 2 * 2 ^ k := by rw [Nat.pow_succ]; omega
  have hpos : 0 < 2 ^ k := Nat.two_pow_pos k
  have HPL := hid (fun W => plain5_yes q k s W hg hs1 hs2)
  obtain ⟨m, hm⟩ : ∃ m, m = 2 ^ k := ⟨_, rfl⟩
  rw [h2k, ← hm] at hk
  rw [← hm] at hpos
  simp only [← hm] at HPL
  obtain ⟨N, hN⟩ : ∃ N, N = zs.length := ⟨_, rfl⟩
  have HNN := hid hN
  rw [← hN] at hlen ⊢
  obtain ⟨t, ht⟩ : ∃ t, t = s % (q : Int) := ⟨_, rfl⟩
  simp only [← ht] at HPL
  obtain ⟨n, hn⟩ : ∃ n, n = 2 * m := ⟨_, rfl⟩
  rw [show ((2 ^ (k + 1) : Nat) : Int) = (n : Int) from by rw [h2k, hn, hm]] at HPL ⊢
  have HN2 := hid hn
  have HM := hid hm
  have hnl : n ≤ 65536 := by omega
  obtain ⟨z, hz⟩ : ∃ z, z = (x - y) % (q : Int) := ⟨_, rfl⟩
  have HZ := hid hz
  clear FD hl hfit hg h2k hm hN ht hn hz
  go_enter Try.func4, Try.ntmps4
  go_wp2_with fail
  refine (lives5_any HFD.out w).mono ?_
  rintro e w0 ⟨rfl, hb0⟩
  have HB0 := hid hb0
  clear hb0
  go_wp2_with fail
  refine (HPL.out w0).mono ?_
  rintro e w1 ⟨b, d, h, r, rfl, _, hD, hb1⟩
  have HD1 := hid hD
  have HB1 : Hid (Below w.heap.size w w1) := HB0.out.trans (hb1.mono HB0.out.size)
  have HSU := hid (sub_any q b x y w1 h3 h4 hD.dom.hp hx1 hx2 hy1 hy2)
  rw [← HZ.out] at HSU
  have HFO : Hid (∀ (c : Int) (W : World), -9223372036854775808 ≤ c → c ≤ 9223372036854775807 → Below w1.heap.size w1 W → Calls Try.prog 9 #[.pointer (some ⟨d, 0, none⟩), .slice a3 N c3, .int .i64 c] W fun e w' => Below W.heap.size W w' ∧
    ((N = n) → ∃ a' c', e = .returned (.tuple #[.slice a' m c', .nilIface]) ∧ Lst w'.heap.size w' a' c' (Fol.foldz q m r t zs c)) ∧
    (¬ (N = n) → ∃ a' c', e = .returned (.tuple #[.slice a' 0 c', .iface 55 (.int .i64 2)]))) := fun c W hc1 hc2 hbw => by
    have hbW := HB1.out.trans (hbw.mono HB1.out.size)
    have h := HFD.out q b d (2 * m) c3 a3 r t c zs W (HD1.out.step hbw).dom (by rw [← HNN.out]; exact hlen) HFT.out ((HL.out.below hbW).mono hbW.size) hc1 hc2
    rw [← HNN.out] at h
    refine h.mono fun e w' ⟨g1, g2, g3⟩ => ⟨g1, fun hn => ?_, fun hn => g3 fun hh => hn (by rw [HN2.out]; exact hh.1)⟩
    have := g2 ⟨by rw [hn, HN2.out], by omega⟩
    rwa [show 2 * m / 2 = m from by omega] at this
  clear hD hb1 HB0 HPL
  go_wp2_with fail
  refine HSU.out.mono ?_
  rintro e w1b ⟨rfl, rfl⟩
  have HFX := hid (HFO.out x w1b hx1 hx2 (Below.refl _ _))
  by_cases hNn : N = n
  · subst hNn
    clear HSU
    go_wp2_with fail
    refine HFX.out.mono ?_
    rintro e w2 ⟨hb2, hA, _⟩
    obtain ⟨a1, c1, rfl, hl1⟩ := hA trivial
    have HB2 := hid hb2
    have HL1 := hid hl1
    have HFY := hid (HFO.out y w2 hy1 hy2 hb2)
    clear hb2 hl1 hA HFX HFO
    go_wp2_with fail
    refine HFY.out.mono ?_
    rintro e w3 ⟨hb3, hA, _⟩
    obtain ⟨a2, c2, rfl, hl2⟩ := hA trivial
    have HL2 := hid hl2
    have HB3 : Hid (Below w.heap.size w w3) := HB1.out.trans ((HB2.out.trans (hb3.mono HB2.out.size)).mono HB1.out.size)
    have HL1b := hid ((HL1.out.below hb3).mono hb3.size)
    have HD3 := hid (HD1.out.step (HB2.out.trans (hb3.mono HB2.out.size)))
    clear hb3 hl2 hA HFY HB2 HL1
    by_cases hz0 : z = 0
    · go_wp2_with fail
      go_ret
      exact ⟨rfl, HB3.out⟩
    by_cases hk3 : kk < 2
    · go_wp2_with fail
      go_ret
      exact ⟨rfl, HB3.out⟩
    by_cases hk4 : (N : Int) < kk
    · go_wp2_with fail
      go_ret
      exact ⟨rfl, HB3.out⟩
    obtain ⟨K, rfl⟩ := Int.eq_ofNat_of_zero_le (show 0 ≤ kk by omega)
    have hk5 : ¬ N < K := by omega
    have hk6 : ¬ K < 2 := by omega
    rcases Nat.mod_two_eq_zero_or_one K with hK | hK
    · obtain ⟨J, hJ⟩ : ∃ J, J = K / 2 := ⟨_, rfl⟩
      have q1 : (K : Int).tdiv 2 = (J : Int) := by rw [hJ]; rfl
      have q3 : (K : Int).tmod 2 = 0 := by rw [Int.tmod_eq_emod_of_nonneg (by omega)]; omega
      have hJK : K = 2 * J := by omega
      have hJ2 : J ≤ 65536 := by omega
      have HNM := HN2
      obtain ⟨U, hU⟩ : ∃ U : Bool, U = decide ((bk q m ((r : Int) * (r : Int) % (q : Int)) (t * t % (q : Int)) (Fol.foldz q m r t zs x)).length ≤ J) := ⟨_, rfl⟩
      obtain ⟨V, hV⟩ : ∃ V : Bool, V = decide ((bk q m ((r : Int) * (r : Int) % (q : Int)) (t * t % (q : Int)) (Fol.foldz q m r t zs y)).length ≤ J) := ⟨_, rfl⟩
      obtain ⟨T, hT⟩ : ∃ T : Bool, T = decide ((bk q (2 * m) r t zs).length ≤ 2 * J) := ⟨_, rfl⟩
      have HIS : Hid (∀ (c : Int) (a : Option Addr) (cap : Nat) (W : World), Dh W q b d h m r t → Lst W.heap.size W a cap (Fol.foldz q m r t zs c) → Calls Try.prog 15 #[.pointer (some ⟨h, 0, none⟩), .int .i64 (J : Int), .slice a m cap] W fun e w' => e = .returned (.bool (decide ((bk q m ((r : Int) * (r : Int) % (q : Int)) (t * t % (q : Int)) (Fol.foldz q m r t zs c)).length ≤ J))) ∧ Below W.heap.size W w') := fun c a cap W hD hl => by
        have hh := is_all hD.half (J : Int) a cap (Fol.foldz q m r t zs c) (by omega) (by omega) (foldz_fits hD.dom.h3 hD.dom.hm _ _ _ _ _) hl
        rw [Fol.foldz_len] at hh
        refine hh.mono fun e w' ⟨g1, g2⟩ => ⟨?_, g2⟩
        rw [g1]
        congr 2
        rw [decide_eq_decide]
        have := HNM.out
        exact ⟨fun h => by omega, fun h => ⟨by omega, by omega, rfl, by omega⟩⟩
      have HIW : Hid (∀ (W : World), Below w.heap.size w W → Dh W q b d h m r t → Calls Try.prog 15 #[.pointer (some ⟨d, 0, none⟩), .int .i64 (K : Int), .slice a3 N c3] W fun e w' => e = .returned (.bool T) ∧ Below W.heap.size W w') := fun W hbw hD => by
        have hh := is_all hD.dom (K : Int) a3 c3 zs (by omega) (by omega) HFT.out ((HL.out.below hbw).mono hbw.size)
        rw [← HNN.out] at hh
        refine hh.mono fun e w' ⟨g1, g2⟩ => ⟨?_, g2⟩
        rw [g1, hT]
        congr 2
        rw [decide_eq_decide]
        have := HNM.out
        exact ⟨fun h => by omega, fun h => ⟨by omega, by omega, by omega, by omega⟩⟩
      have HC := hid (HD3.out.dom.cir.catches HD3.out.dom.nnd HD3.out.half.nnd zs J)
      have hxy : ¬ (q : Int) ∣ y - x := fun hh => hz0 (by
        rw [HZ.out]
        exact Int.emod_eq_zero_of_dvd (by have := Int.dvd_neg.2 hh; rwa [show -(y - x) = x - y from by omega] at this))
      have HTU : Hid (T = true → U = true ∧ V = true) := fun hh => by
        rw [hT, decide_eq_true_eq] at hh
        rw [hU, hV, decide_eq_true_eq, decide_eq_true_eq]
        exact ⟨HC.out.1 hh x, HC.out.1 hh y⟩
      have HUT : Hid (U = true → V = true → T = true) := fun h1 h2 => by
        rw [hU, decide_eq_true_eq] at h1
        rw [hV, decide_eq_true_eq] at h2
        rw [hT, decide_eq_true_eq]
        exact HC.out.2 x y hxy h1 h2
      have HU := hid (HIS.out x a1 c1 w3 HD3.out HL1b.out)
      rw [← hU] at HU
      have HV := hid fun W hD hl => HIS.out y a2 c2 W hD hl
      rw [← hV] at HV
      clear hU hV hT HC hxy HIS hJ hJK HNM hK HL1b
      go_wp2_with fail
      · go_ret
        exact ⟨rfl, HB3.out⟩
      refine HU.out.mono ?_
      rintro e w4 ⟨rfl, hb4⟩
      have HD4 := hid (HD3.out.step hb4)
      have HL4 := hid ((HL2.out.below hb4).mono hb4.size)
      have HB4 : Hid (Below w.heap.size w w4) := HB3.out.trans (hb4.mono HB3.out.size)
      clear hb4 HU
      go_wp2_with fail
      refine (HV.out w4 HD4.out HL4.out).mono ?_
      rintro e w5 ⟨rfl, hb5⟩
      have HD5 := hid (HD4.out.step hb5)
      have HB5 : Hid (Below w.heap.size w w5) := HB4.out.trans (hb5.mono HB4.out.size)
      clear hb5 HV
      go_wp2_with fail
      refine (HIW.out w5 HB5.out HD5.out).mono ?_
      rintro e w6 ⟨rfl, hb6⟩
      have HB6 : Hid (Below w.heap.size w w6) := HB5.out.trans (hb6.mono HB5.out.size)
      clear hb6 HIW
      cases T with
      | true =>
        obtain ⟨rfl, rfl⟩ := HTU.out rfl
        clear HTU HUT
        go_wp2_with fail
        go_ret
        exact ⟨rfl, HB6.out⟩
      | false =>
        cases U with
        | false =>
          clear HTU HUT
          go_wp2_with fail
          go_ret
          exact ⟨rfl, HB6.out⟩
        | true =>
          cases V with
          | true => exact absurd (HUT.out rfl rfl) (by decide)
          | false =>
            clear HTU HUT
            go_wp2_with fail
            go_ret
            exact ⟨rfl, HB6.out⟩
    · have q3 : (K : Int).tmod 2 = 1 := by rw [Int.tmod_eq_emod_of_nonneg (by omega)]; omega
      clear hK
      go_wp2_with fail
      go_ret
      exact ⟨rfl, HB3.out⟩
  · have hNn2 : ¬ (N : Int) = (n : Int) := by omega
    clear HSU
    go_wp2_with fail
    refine HFX.out.mono ?_
    rintro e w2 ⟨hb2, _, hA⟩
    obtain ⟨a1, c1, rfl⟩ := hA hNn
    have HB2 := hid hb2
    have HFY := hid (HFO.out y w2 hy1 hy2 hb2)
    have HNN := hid hNn
    clear hb2 hA HFX HFO hNn
    go_wp2_with fail
    refine HFY.out.mono ?_
    rintro e w3 ⟨hb3, _, hA⟩
    obtain ⟨a2, c2, rfl⟩ := hA HNN.out
    have HB3 : Hid (Below w.heap.size w w3) := HB1.out.trans ((HB2.out.trans (hb3.mono HB2.out.size)).mono HB1.out.size)
    clear hb3 hA HFY HB2
    by_cases hz0 : z = 0
    · go_wp2_with fail
      go_ret
      exact ⟨rfl, HB3.out⟩
    · go_wp2_with fail
      go_ret
      exact ⟨rfl, HB3.out⟩

set_option maxRecDepth 100000 in
theorem ocatches_walk (FD : FldAs) (p n s kk : Int) (a3 : Option Addr) (c3 : Nat) (zs : List Int) (x y : Int) (w : World) (hp1 : -9223372036854775808 ≤ p) (hp2 : p ≤ 9223372036854775807) (hn1 : -9223372036854775808 ≤ n) (hn2 : n ≤ 9223372036854775807) (hs1 : -9223372036854775808 ≤ s) (hs2 : s ≤ 9223372036854775807) (hk1 : -9223372036854775808 ≤ kk) (hk2 : kk ≤ 9223372036854775807) (hlen : zs.length ≤ 17592186043904) (hfit : Fits zs) (hl : Lst w.heap.size w a3 c3 zs) (hx1 : -9223372036854775808 ≤ x) (hx2 : x ≤ 9223372036854775807) (hy1 : -9223372036854775808 ≤ y) (hy2 : y ≤ 9223372036854775807) :
    Calls Try.prog 4 #[.int .i64 p, .int .i64 n, .int .i64 s, .int .i64 kk, .slice a3 zs.length c3, .int .i64 x, .int .i64 y] w fun e w' => e = .returned (.bool true) ∧ Below w.heap.size w w' := by
  by_cases hg : Good5 p n s
  · obtain ⟨q, k, rfl, rfl, hg⟩ := hg
    exact ocatches_good FD q k s kk a3 c3 zs x y w hg hs1 hs2 hk1 hk2 hlen hfit hl hx1 hx2 hy1 hy2
  · have HFD := hid FD
    clear FD hlen hfit hl
    go_enter Try.func4, Try.ntmps4
    go_wp2_with fail
    refine (lives5_any HFD.out w).mono ?_
    rintro e w0 ⟨rfl, hb0⟩
    have HB0 := hid hb0
    clear hb0
    go_wp2_with fail
    refine (plain5_no p n s w0 hg hp1 hp2 hn1 hn2 hs1 hs2).mono ?_
    rintro e w1 ⟨rfl, hb1⟩
    have HB1 : Hid (Below w.heap.size w w1) := HB0.out.trans (hb1.mono HB0.out.size)
    clear hb1
    go_wp2_with fail
    go_ret
    exact ⟨rfl, HB1.out⟩

end Go.Proofs.Ytbbjbhiihfnkmah
