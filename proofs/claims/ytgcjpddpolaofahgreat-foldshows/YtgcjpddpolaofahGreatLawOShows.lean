/- FoldShows: the walk. -/
import Derived.Test.YtgcjpddpolaofahGreatFogm
import Derived.Test.YtgcjpddpolaofahGreatFogV
import Derived.Test.YtgcjpddpolaofahGreatFogz
import Derived.Test.YtgcjpddpolaofahGreatLawOKeeps
namespace Go.Proofs.YtgcjpddpolaofahGreat
open Go.RowKit

/-- what isn't a chain stays -/
def KC (w w' : World) : Prop := w.heap.size ≤ w'.heap.size ∧ ∀ (b : Nat) (cs : Array Value) (t : TypeId) (f : Nat × Nat), w.heap[b]? = some (.cells cs t f) → t ≠ 70 → w'.heap[b]? = w.heap[b]?
theorem KC.ki {w w' : World} (k : KC w w') : KI w w' := ⟨k.1, fun b cs t f hb ht => k.2 b cs t f hb (by rcases ht with rfl | rfl <;> decide)⟩
theorem SlR.kc {w w' : World} {r : List Int} {v : Value} (h : SlR w r v) (k : KC w w') : SlR w' r v :=
  h.blocks k.1 (fun b hb hn => by
    obtain ⟨c', t', f', h2, _, _, h3, _, _, _⟩ := hn
    exact k.2 b c' t' f' h2 h3)
theorem OwnR.kc {base : Nat} {w w' : World} {v : Value} {rs : List (List Int)} (h : OwnR base w v rs) (k : KC w w') : OwnR base w' v rs := by
  obtain ⟨vals, h1, h2⟩ := h
  refine ⟨vals, ⟨h1.1, ?_⟩, fun j hj => ?_⟩
  · rcases h1.2 with hn | ⟨g, cap, cur, rfl, hb, hg, rest⟩
    · exact .inl hn
    · exact .inr ⟨g, cap, cur, rfl, hb, (k.2 _ _ _ _ hg (by decide)).trans hg, rest⟩
  · obtain ⟨u, h3, h4⟩ := h2 j hj
    exact ⟨u, h3, h4.kc k⟩
theorem OwnF.kc {base : Nat} {w w' : World} {v : Value} {os : List OnZ} (h : OwnF base w v os) (k : KC w w') : OwnF base w' v os := by
  obtain ⟨vals, h1, h2⟩ := h
  refine ⟨vals, ⟨h1.1, ?_⟩, fun j hj => ?_⟩
  · rcases h1.2 with hn | ⟨g, cap, cur, rfl, hb, hg, rest⟩
    · exact .inl hn
    · exact .inr ⟨g, cap, cur, rfl, hb, (k.2 _ _ _ _ hg (by decide)).trans hg, rest⟩
  · obtain ⟨vp, vr, vn, e1, e2, e3, e4, e5, e6⟩ := h2 j hj
    exact ⟨vp, vr, vn, e1, e2, e3, e4.kc k, e5.kc k, e6.kc k⟩
theorem OwnR.lstC {base : Nat} {w : World} {a : Option Addr} {n c : Nat} {rs : List (List Int)} (h : OwnR base w (.slice a n c) rs) : LstR w.heap.size w a c rs := by
  obtain ⟨a', c', hv, hl⟩ := h.lst
  injection hv with h1 _ h3
  subst h1 h3
  exact hl
theorem OwnF.lstC {base : Nat} {w : World} {a : Option Addr} {n c : Nat} {rs : List OnZ} (h : OwnF base w (.slice a n c) rs) : LstF w.heap.size w a c rs := by
  obtain ⟨a', c', hv, hl⟩ := h.lst
  injection hv with h1 _ h3
  subst h1 h3
  exact hl
/-- what Make makes can be read whatever becomes of chains -/
theorem made_fdc {base : Nat} {w : World} {b1 b2 b3 : Option Addr} {n1 n3 d1 d2 d3 : Nat} {roots : List (List Int)} {last : List Int} {os : List OnZ} (g1 : OwnR base w (.slice b1 n1 d1) roots) (g2 : NumL w b2 d2 last) (g3 : OwnF base w (.slice b3 n3 d3) os) : FdC w b1 b2 b3 d1 d2 d3 roots last os := fun w' hs e => by
  have k : KC w w' := ⟨hs, e⟩
  exact ⟨(g1.kc k).lstC, (g2.ki k.ki).1, (g3.kc k).lstC⟩
/-- what Make makes isn't too great -/
theorem mk_fdb {q n K m a : Nat} {r s : Int} {word D : List Int} (h3 : 3 ≤ q) (h4 : q ≤ 2147483647) (hK : K ≤ 16) (hm : m + 1 ≤ K) (hw : word.length = 2 ^ K) (ha : a ≤ 64) : FdB (mkR q n K r s word D m) (mkl q n K r s word D m) (mkO q n K r s word D m a) := by
  have hml : (mkl q n K r s word D m).length ≤ 65536 := Nat.le_trans (bk_len _ _ _ _ _) (Nat.le_trans (Nat.pow_le_pow_right (by omega) (show K - m ≤ 16 by omega)) (by decide))
  refine ⟨by rw [mkR_len]; omega, fun k hk => ?_, fun k hk => ?_, by omega, fits_of_can h4 (bk_can (by omega) _ _ _ _), by rw [mkO_len]; omega, fun k hk => ?_⟩
  · rw [mkR_len] at hk
    rw [mkR_rat hk, mkr_len hw (by omega)]
    omega
  · rw [mkR_len] at hk
    rw [mkR_rat hk, mkr_len hw (by omega)]
    exact ⟨mkr_fits h3 h4 _, by omega⟩
  · rw [mkO_len] at hk
    rw [mkO_onat hk]
    have hps : (mko q n K r s word D m a k).ps = mdz (mkA q n K r s word D m a) (2 ^ (K - k - 1)) := rfl
    have hrw : (mko q n K r s word D m a k).rows = shw q (mkt q n K r s word D k) (mko q n K r s word D m a k).ps := rfl
    have hnd : (mko q n K r s word D m a k).nodes = ndf q n (mkt q n K r s word D k).length (mkt q n K r s word D k) (mko q n K r s word D m a k).ps 0 := rfl
    have hlt := mkt_len (q := q) (n := n) (r := r) (s := s) (D := D) hw (show k < K by omega)
    have hlt2 : 2 ^ (K - k - 1) ≤ 65536 := Nat.le_trans (Nat.pow_le_pow_right (by omega) (show K - k - 1 ≤ 16 by omega)) (by decide)
    have hlt3 := Nat.two_pow_pos (K - k - 1)
    have h1 : (mko q n K r s word D m a k).ps.length ≤ 64 := by
      rw [hps]
      refine Nat.le_trans (mdz_len _ _) ?_
      unfold mkA ckA
      rw [ls_len]
      exact ha
    have hin : ∀ x, x ∈ (mko q n K r s word D m a k).ps → 0 ≤ x ∧ x < ((mkt q n K r s word D k).length : Int) := fun x hx => by
      rw [hps] at hx
      rw [hlt]
      exact mdz_in hlt3 x hx
    have hasc : AscN ((mkt q n K r s word D k).length : Int) (mko q n K r s word D m a k).ps := by
      rw [hps]
      refine ascN_once (onc_is _) (fun x hx => ?_)
      obtain ⟨y, _, rfl⟩ := List.mem_map.1 hx
      rw [hlt]
      exact ⟨Int.emod_nonneg _ (by omega), Int.emod_lt_of_pos _ (by omega)⟩
    have hn1 : (mko q n K r s word D m a k).nodes.length ≤ 65536 := by
      rw [hnd]
      exact Nat.le_trans (ndf_len _ _ _ _ _ _ (by omega)) (by omega)
    refine ⟨by omega, by rw [hrw, shw_len]; omega, by omega, fun j hj => ?_, fun j hj => ?_, fun j hj => ?_, ?_, ?_⟩
    · have hm2 : rat (mko q n K r s word D m a k).rows j ∈ (mko q n K r s word D m a k).ps.map (fun x => elr q (rat (mkt q n K r s word D k) x.toNat)) := rat_mem hj
      obtain ⟨x, hx, e⟩ := List.mem_map.1 hm2
      rw [← e, elr, ls_len]
      have hx2 := hin x hx
      have hlt5 : x.toNat < (mks q n K r s word D k).1.length / 2 := by
        have := hlt
        rw [mkt, prs5_len] at this hx2
        omega
      rw [mkt, prs5_rat hlt5]
      simp
    · have hm2 : rat (mko q n K r s word D m a k).nodes j ∈ ndf q n (mkt q n K r s word D k).length (mkt q n K r s word D k) (mko q n K r s word D m a k).ps 0 := rat_mem hj
      have := ndf_four q n _ _ _ _ _ hm2
      omega
    · have hz := hasc j hj
      rw [hlt] at hz
      omega
    · rw [hrw]
      exact shw_fits h3 h4 (mkt_fits h3 h4 _) hasc
    · rw [hnd]
      exact ndf_fits h3 h4 n _ (by omega)
/-- a codeword is what a short polynomial comes to -/
theorem enc_low {q N M : Nat} {zs : List Int} {r s : Int} (hd : tpn q (zat zs) zs.length ≤ M) : ∃ f : Nat → Int, ∀ j, j < N → (q : Int) ∣ zat (vlz q N r s zs) j - Pol.ps f (Dom.pt q s r j) M := by
  obtain ⟨t, ht⟩ : ∃ t, t = tpn q (zat zs) zs.length := ⟨_, rfl⟩
  obtain ⟨f, hf⟩ : ∃ f : Nat → Int, f = fun j => if j < t then zat zs j else 0 := ⟨_, rfl⟩
  have htl : t ≤ zs.length := by rw [ht]; exact tpn_le _ _ _
  refine ⟨f, fun j hj => ?_⟩
  unfold vlz
  rw [ls_at _ _ _ hj]
  have h0 : ∀ i, t ≤ i → f i = 0 := fun i hi => by rw [hf]; simp; omega
  have h1 : (q : Int) ∣ Pol.ps (zat zs) (Dom.pt q s r j) zs.length - Pol.ps f (Dom.pt q s r j) zs.length := Pol.ps_congr _ _ (fun i hi => by
    rw [hf]
    simp only []
    split
    · rw [Int.sub_self]; exact Int.dvd_zero _
    · rename_i hh
      rw [Int.sub_zero]
      exact Int.dvd_of_emod_eq_zero (Pol.tp_behind q (zat zs) zs.length i (by change tpn q (zat zs) zs.length ≤ i; omega) hi))
  rw [Dom.ps_stay f _ t zs.length htl h0, ← Dom.ps_stay f _ t M (by omega) h0] at h1
  exact Fol.dvdt (Pol.emod_dvd q _) h1

/-- two chains -/
structure LsS (w : World) (N0 q n c e : Nat) (Dc De : List Int) (W : World) : Prop where
  bel : Below w.heap.size w W
  pc : PCh N0 q n W c Dc
  pe : PCh N0 q n W e De
  hn : w.heap.size ≤ N0
  ne : c ≠ e
section
variable {w W W' : World} {N0 q n c e : Nat} {Dc De Dc' De' : List Int}
theorem LsS.step (h : LsS w N0 q n c e Dc De W) (b : Below W.heap.size W W') : LsS w N0 q n c e Dc De W' :=
  ⟨h.bel.trans (b.mono h.bel.size), h.pc.below b, h.pe.below b, h.hn, h.ne⟩
theorem LsS.one (h : LsS w N0 q n c e Dc De W) (g : W.grownBy W' (some c)) (p : PCh N0 q n W' c Dc') : LsS w N0 q n c e Dc' De W' := by
  have h1 := h.hn
  have h2 := h.pc.ge
  have h3 := h.pc.lt
  have h4 := h.pe.lt
  exact ⟨h.bel.trans (gb_to g (by omega) h.bel.size), p, h.pe.blocks (gb_blk g h4 (Ne.symm h.ne)) (fun b hb => gb_blk g (by omega) (by omega)), h.hn, h.ne⟩
theorem LsS.two (h : LsS w N0 q n c e Dc De W) (g : W.grownBy W' (some e)) (p : PCh N0 q n W' e De') : LsS w N0 q n c e Dc De' W' := by
  have h1 := h.hn
  have h2 := h.pe.ge
  have h3 := h.pc.lt
  have h4 := h.pe.lt
  exact ⟨h.bel.trans (gb_to g (by omega) h.bel.size), h.pc.blocks (gb_blk g h3 h.ne) (fun b hb => gb_blk g (by omega) (by omega)), p, h.hn, h.ne⟩
end
theorem kc_turn {N0 q n c : Nat} {D : List Int} {W W' : World} (p : PCh N0 q n W c D) (g : W.grownBy W' (some c)) : KC W W' := by
  obtain ⟨cs, f, hc⟩ := p.typ
  refine ⟨g.size, fun b cs' t f' hb ht => gb_blk g (Array.getElem?_eq_some_iff.1 hb).1 ?_⟩
  rintro rfl
  rw [hc] at hb
  injection hb with hb
  injection hb with _ h2 _
  exact ht h2.symm

/-- what stands behind Encode -/
structure LeS (w : World) (q n dd b d sp bs K g : Nat) (r t : Int) (zs word : List Int) (W : World) : Prop where
  bel : Below w.heap.size w W
  dom : DO W q b d (2 ^ K) r t
  ok : SpgOk q n dd
  sp : SpgAt W sp bs q n dd
  lw : Lst W.heap.size W (some ⟨g, 0, none⟩) (2 ^ K) word
  isw : word = vlz q (2 ^ K) r t zs

set_option maxRecDepth 100000 in
set_option maxHeartbeats 4000000 in
theorem oshows_good (FD : FldAs) (CK : OckAs) (q k' : Nat) (s k asked : Int) (aa al : Option Addr) (ca cl : Nat) (zs label : List Int) (w : World) (hg : GoodAt q (k' + 1) s) (hs1 : -9223372036854775808 ≤ s) (hs2 : s ≤ 9223372036854775807) (hk1 : -9223372036854775808 ≤ k) (hk2 : k ≤ 9223372036854775807) (hk3 : -9223372036854775808 ≤ asked) (hk4 : asked ≤ 9223372036854775807)
    (hzl : zs.length ≤ 17592186043904) (hfz : Fits zs) (hlz : Lst w.heap.size w aa ca zs) (hll : label.length ≤ 17592186043904) (hfl : Fits label) (hl : Lst w.heap.size w al cl label) :
    Calls Tryz.prog 3 #[.int .i64 q, .int .i64 ((2 ^ (k' + 1) : Nat) : Int), .int .i64 s, .int .i64 k, .slice aa zs.length ca, .int .i64 asked, .slice al label.length cl] w fun e w' => e = .returned (.bool true) ∧ Below w.heap.size w w' := by
  have HFD := hid FD
  have HCK := hid CK
  have HG := hid hg
  have HFL := hid hfl
  have HLB := hid hl
  have HFZ := hid hfz
  have HLZ := hid hlz
  have h3 := hg.h3
  have h4 := hg.h4
  have HPL := hid (fun W => plain5_yes q k' s W hg hs1 hs2)
  obtain ⟨K, hK⟩ : ∃ K, K = k' + 1 := ⟨_, rfl⟩
  have hKK : K ≤ 16 := by rw [hK]; exact hg.hk
  have h2k : 2 * 2 ^ k' = 2 ^ K := by rw [hK, Nat.pow_succ]; omega
  have HK := hid hKK
  rw [← hK] at HPL ⊢
  have HPL2 : Hid (∀ W : World, Calls Tryz.prog 5 #[.int .i64 q, .int .i64 ((2 ^ K : Nat) : Int), .int .i64 s] W fun e w' => ∃ (b d h r : Nat), e = .returned (.tuple #[.pointer (some ⟨b, 0, none⟩), .pointer (some ⟨d, 0, none⟩), .pointer (some ⟨h, 0, none⟩)]) ∧ DO w' q b d (2 ^ K) r (s % (q : Int)) ∧ Below W.heap.size W w') := fun W => by
    refine (HPL.out W).mono ?_
    rintro e w' ⟨b, d, h, r, h1, _, h2, h3⟩
    exact ⟨b, d, h, r, h1, by rw [← h2k]; exact h2.dom, h3⟩
  obtain ⟨t, ht⟩ : ∃ t, t = s % (q : Int) := ⟨_, rfl⟩
  simp only [← ht] at HPL2
  have hN2 : 2 ^ K ≤ 65536 := two_pow_le hKK
  obtain ⟨N, hN⟩ : ∃ N, N = 2 ^ K := ⟨_, rfl⟩
  have HNE := hid hN
  rw [← hN] at HPL2 hN2 ⊢
  clear FD CK hg hfl hl hfz hlz HPL hK hKK h2k ht hN
  go_enter Tryz.func3, Tryz.ntmps3
  go_wp2_with fail
  refine (lives5_any HFD.out w).mono ?_
  rintro e w0 ⟨rfl, hb0⟩
  have HB0 := hid hb0
  clear hb0 HFD
  go_wp2_with fail
  refine (HPL2.out w0).mono ?_
  rintro e w1 ⟨b, d, h, r, rfl, hD, hb1⟩
  have HD1 := hid hD
  have HB1 : Hid (Below w.heap.size w w1) := HB0.out.trans (hb1.mono HB0.out.size)
  clear hD hb1 HB0 HPL2
  by_cases h23 : q < 23
  · have HSN := hid (snew_no q b w1 h3 h23 HD1.out.hp)
    clear HD1
    go_wp2_with fail
    refine HSN.out.mono ?_
    rintro e w2 ⟨rfl, rfl⟩
    go_wp2_with fail
    go_ret
    exact ⟨rfl, HB1.out⟩
  · have HSN := hid (snew_any q b w1 HD1.out.pr (by omega) h4 HD1.out.hp)
    go_wp2_with fail
    refine HSN.out.mono ?_
    rintro e w2 ⟨sp, n, dd, rfl, hsp, hok, hat, hb2⟩
    have HD2 := hid (HD1.out.step hb2)
    have HB2 : Hid (Below w.heap.size w w2) := HB1.out.trans (hb2.mono HB1.out.size)
    have HOK := hid hok
    have HAT := hid hat
    clear hsp hok hat hb2 HD1 HB1 HSN
    by_cases hk : 1 ≤ k ∧ k ≤ (N : Int)
    · obtain ⟨k0, rfl⟩ := Int.eq_ofNat_of_zero_le (show 0 ≤ k by omega)
      by_cases hd : tpn q (zat zs) zs.length ≤ k0
      · have HEN := hid (enc_any HD2.out k0 aa ca zs (by omega) (by omega) (by omega) HFZ.out ((HLZ.out.below HB2.out).mono HB2.out.size).row hd)
        go_wp2_with fail
        refine HEN.out.mono ?_
        rintro e w3 ⟨rfl, hrow, hb3, hlt3⟩
        obtain ⟨word, hword⟩ : ∃ word, word = vlz q N r t zs := ⟨_, rfl⟩
        have hwl : word.length = N := by rw [hword]; exact vlz_len _ _ _ _ _
        have HWL := hid hwl
        have HWF : Hid (Fits word) := by unfold Hid; rw [hword]; exact vlz_fits h3 h4 _ _ _ _
        have HLW : Hid (Lst w3.heap.size w3 (some ⟨w2.heap.size, 0, none⟩) N word) := by unfold Hid; rw [hword]; exact lst_of_rowIs hrow
        have HWD := hid hword
        have HD3 := hid (HD2.out.step hb3)
        have HB3 : Hid (Below w.heap.size w w3) := HB2.out.trans (hb3.mono HB2.out.size)
        have HA3 := hid (HAT.out.keep hb3)
        have HTP := hid hd
        clear hrow hb3 hlt3 hwl hword hd HEN HD2 HB2 HAT
        generalize w2.heap.size = gw at *
        have HAL : Hid (sp < w3.heap.size ∧ b < w3.heap.size ∧ d < w3.heap.size) := ⟨HA3.out.lt, HD3.out.blt, HD3.out.dlt⟩
        have HN1 := hid (cnew_any w3.heap.size q n dd sp b cl al label w3 HOK.out HA3.out (Nat.le_refl _) HAL.out.1 HAL.out.2.1 hll HFL.out ((HLB.out.below HB3.out).mono HB3.out.size))
        have HDG : Hid (Dig (digl q n (2 :: label))) := dig_digl h3 h4 _ _
        go_wp2_with fail
        refine HN1.out.mono ?_
        rintro e w4 ⟨c, rfl, hc4, hP4, hb4⟩
        have HB4 : Hid (Below w.heap.size w w4) := HB3.out.trans (hb4.mono HB3.out.size)
        have HN2 := hid (cnew_any w3.heap.size q n dd sp b cl al label w4 HOK.out (HA3.out.keep hb4) hb4.size HAL.out.1 HAL.out.2.1 hll HFL.out ((HLB.out.below HB4.out).mono HB4.out.size))
        have HP4 := hid hP4
        have HB34 := hid hb4
        clear hP4 hb4 HN1
        generalize digl q n (2 :: label) = D at *
        go_wp2_with fail
        refine HN2.out.mono ?_
        rintro e w5 ⟨c2, rfl, hc5, hP5, hb5⟩
        have HL5 : Hid (LsS w w3.heap.size q n c c2 D D w5) := ⟨HB4.out.trans (hb5.mono HB4.out.size), HP4.out.below hb5, hP5, HB3.out.size, by have := HP4.out.lt; omega⟩
        have HB35 : Hid (Below w3.heap.size w3 w5) := HB34.out.trans (hb5.mono HB34.out.size)
        have HF5 : Hid (FmkP w3.heap.size q n dd b d sp b c K r t word D (some ⟨gw, 0, none⟩) N w5) := ⟨by rw [← HNE.out]; exact HD3.out.step HB35.out, HOK.out, HA3.out.keep HB35.out, HAL.out.1, HAL.out.2.1, HAL.out.2.2, HAL.out.2.1, HL5.out.pc, HDG.out, HK.out, by rw [HWL.out]; omega, HWF.out, (HLW.out.below HB35.out).mono HB35.out.size⟩
        clear hc4 hc5 hP5 hb5 HN2 HP4 HB34 HB4
        by_cases hz : fz5 (2 ^ K) (k0 : Int) asked = 0
        · obtain ⟨J, a, hkJ, rfl, hJ, ha1, ha⟩ := fz5_says HK.out hz
          have HZ := hid hz
          have hk0 : k0 = 2 ^ J := by omega
          obtain ⟨f, hf⟩ := enc_low (N := 2 ^ K) (r := r) (s := t) (show tpn q (zat zs) zs.length ≤ 2 ^ J by rw [← hk0]; exact HTP.out)
          have HIW : Hid (word = vlz q (2 ^ K) r t zs) := by unfold Hid; rw [← HNE.out]; exact HWD.out
          rw [← HIW.out] at hf
          have hDK : DO w3 q b d (2 ^ K) r t := by rw [← HNE.out]; exact HD3.out
          have hwK : word.length = 2 ^ K := by rw [← HNE.out]; exact HWL.out
          have hbk : (bk q (2 ^ K) r t word).length ≤ 2 ^ J := bk_short hDK.cir hDK.nnd (Nat.pow_le_pow_right (by omega) (by omega)) word f hf
          have HMK := hid (fmake_good w3.heap.size q n dd b d sp b c K N J a r t (some ⟨gw, 0, none⟩) word D w5 HF5.out hJ ha1 ha hwK hbk)
          have HSH := hid (mk_shown (n := n) (D := D) (a := a) hDK.cir hDK.nnd HK.out hJ hwK f hf)
          have HFB := hid (mk_fdb (q := q) (n := n) (r := r) (s := t) (D := D) (a := a) h3 h4 HK.out (show (J - 2) + 1 ≤ K by omega) hwK ha)
          rw [← hk0, HWL.out] at HMK
          have HKJ := hid hk0
          clear hz hkJ hf hDK hwK hbk hJ hk0
          obtain ⟨M, hM⟩ : ∃ M, M = J - 2 := ⟨_, rfl⟩
          rw [← hM] at HMK HSH HFB
          have HMJ := hid hM
          clear hM
          go_wp2_with fail
          refine HMK.out.mono ?_
          rintro e w6 ⟨b1, d1, b2, d2, b3, d3, ap, cp, rfl, g1, g2, g3, g4, g5, hg5⟩
          obtain ⟨nL, hnL⟩ : ∃ nL, nL = (mkl q n K r t word D M).length := ⟨_, rfl⟩
          rw [← hnL]
          have HNL := hid hnL
          obtain ⟨D6, hD6⟩ : ∃ D6, D6 = pld q n a (ckL q n (mkR q n K r t word D M) (mkl q n K r t word D M) D M) := ⟨_, rfl⟩
          have hba : Below w6.heap.size w6 (w6.alloc (.cells #[.slice b1 M d1, .slice b2 nL d2, .slice b3 M d3] 40)) := (Below.refl _ _).alloc (Nat.le_refl _) _
          have hkc : KC w6 (w6.alloc (.cells #[.slice b1 M d1, .slice b2 nL d2, .slice b3 M d3] 40)) := ⟨hba.size, fun b cs t f hb _ => hba.block b (Array.getElem?_eq_some_iff.1 hb).1⟩
          have HO6 : Hid ((w6.alloc (.cells #[.slice b1 M d1, .slice b2 nL d2, .slice b3 M d3] 40)).heap[w6.heap.size]? = some (.cells #[.slice b1 M d1, .slice b2 nL d2, .slice b3 M d3] 40 (0, 0))) := heap_alloc_new w6 _
          have HL6 := hid ((HL5.out.one hg5 g5).step hba)
          rw [← hD6] at HL6
          have HF6 := hid (made_fdc (g1.kc hkc) (g2.ki hkc.ki) (g3.kc hkc))
          have HM6 := hid (g4.ki hkc.ki)
          have HB36 : Hid (Below w3.heap.size w3 (w6.alloc (.cells #[.slice b1 M d1, .slice b2 nL d2, .slice b3 M d3] 40))) := by
            have h1 := HB35.out
            have h2 := h1.trans (gb_to hg5 HL5.out.pc.ge h1.size)
            exact h2.trans (hba.mono h2.size)
          have hcko : cko q n K r t (k0 : Int) (a : Int) (mkR q n K r t word D M) (mkl q n K r t word D M) (mkO q n K r t word D M a) D = (D6, (mkA q n K r t word D M a, true)) := by
            have hlg : ((k0 : Int)).toNat.log2 = J := by rw [Int.toNat_natCast, HKJ.out]; exact Nat.log2_two_pow
            unfold cko
            rw [if_neg, hlg, Int.toNat_natCast, ← HMJ.out, if_pos HSH.out, hD6]
            · rfl
            · rintro (h1 | h1)
              · exact h1 HZ.out
              · rw [hlg, mkR_len, ← HMJ.out] at h1
                exact h1 rfl
          have HCC := hid (HCK.out w3.heap.size q n dd b d sp b c2 K r t (k0 : Int) (a : Int) b1 b2 b3 d1 d2 d3 (mkR q n K r t word D M) (mkl q n K r t word D M) (mkO q n K r t word D M a) D _ (fun W' hb => by rw [← HNE.out]; exact HD3.out.step (HB36.out.trans hb)) HOK.out (HA3.out.keep HB36.out) HAL.out.1 HAL.out.2.1 HL6.out.pe HDG.out HFB.out HF6.out hk1 hk2 hk3 hk4)
          have hal : (mkA q n K r t word D M a).length = a := ckA_len _ _ _ _ _ _ _ _
          rw [hcko, mkR_len, mkO_len, ← hnL] at HCC
          simp only [hal] at HCC
          have HD6 : Hid (Dig D6) := by
            unfold Hid
            rw [hD6]
            cases a with
            | zero => exact dig_digl h3 h4 _ _
            | succ i => exact dig_digl h3 h4 _ _
          have x0 := thr0 HO6.out
          have x1 := thr1 HO6.out
          have x2 := thr2 HO6.out
          have HAA := hid hal
          clear g1 g2 g3 g4 g5 hg5 hba hkc hcko hal hnL hD6 HL5 HF5 HMK HF6 HB35 HD3 HA3
          generalize mkA q n K r t word D M a = AL at *
          go_wp2_with fail
          refine HCC.out.mono ?_
          rintro e w7 ⟨av, cv, rfl, hnm, hpc, hg7⟩
          have HL7 := hid (HL6.out.two hg7 hpc)
          have HI7 := hid (ints_same _ _ AL ap av cp cv w7 (HM6.out.ki (kc_turn HL6.out.pe hg7).ki).1.row hnm.1.row (by rw [HAA.out]; omega))
          rw [HAA.out] at HI7
          clear hnm hpc hg7 HCC HL6 HM6 HO6 x0 x1 x2
          go_wp2_with fail
          refine HI7.out.mono ?_
          rintro e w8 ⟨rfl, n8, rfl⟩
          have HL8 := hid (HL7.out.step (below_drewN (Below.refl _ _) n8))
          clear HI7 HL7
          generalize w7.drewN n8 = w8 at *
          have HX := hid (cdraw_any w3.heap.size q n c D6 w8 HL8.out.pc HD6.out)
          go_wp2_with fail
          refine HX.out.mono ?_
          rintro e w9 ⟨rfl, hp9, hg9⟩
          have HL9 := hid (HL8.out.one hg9 hp9)
          clear hp9 hg9 HX HL8
          have HY := hid (cdraw_any w3.heap.size q n c2 D6 w9 HL9.out.pe HD6.out)
          generalize zat (digl q n (4 :: D6)) 0 = X at *
          go_wp2_with fail
          refine HY.out.mono ?_
          rintro e w10 ⟨rfl, hp10, hg10⟩
          have HE := hid (HL9.out.two hg10 hp10).bel
          clear hp10 hg10 HY HL9
          go_wp2_with fail
          go_ret
          exact ⟨rfl, HE.out⟩
        · have HMK := hid (fmake_show w3.heap.size q n dd b d sp b c K N r t (k0 : Int) asked (some ⟨gw, 0, none⟩) word D w5 HF5.out hk1 hk2 hz)
          rw [HWL.out] at HMK
          clear hz
          go_wp2_with fail
          refine HMK.out.mono ?_
          rintro e w6 ⟨rfl, hb6⟩
          have HE := hid (HL5.out.step hb6).bel
          clear hb6 HMK HL5 HF5
          go_wp2_with fail
          go_ret
          exact ⟨rfl, HE.out.trans ((Below.refl _ _).alloc HE.out.size _)⟩
      · have HEN := hid (enc_size HD2.out k0 aa ca zs (by omega) (by omega) (by omega) HFZ.out ((HLZ.out.below HB2.out).mono HB2.out.size).row (by omega))
        go_wp2_with fail
        refine HEN.out.mono ?_
        rintro e w3 ⟨rfl, rfl⟩
        go_wp2_with fail
        go_ret
        exact ⟨rfl, HB2.out⟩
    · have HEN := hid (enc_range (w := w2) k aa zs.length ca HD2.out.da hk hk1 hk2 hN2)
      go_wp2_with fail
      refine HEN.out.mono ?_
      rintro e w3 ⟨rfl, rfl⟩
      go_wp2_with fail
      go_ret
      exact ⟨rfl, HB2.out⟩

set_option maxRecDepth 100000 in
theorem oshows_walk (FD : FldAs) (CK : OckAs) (p z s k asked : Int) (aa al : Option Addr) (ca cl : Nat) (zs label : List Int) (w : World) (hp1 : -9223372036854775808 ≤ p) (hp2 : p ≤ 9223372036854775807) (hz1 : -9223372036854775808 ≤ z) (hz2 : z ≤ 9223372036854775807) (hs1 : -9223372036854775808 ≤ s) (hs2 : s ≤ 9223372036854775807) (hk1 : -9223372036854775808 ≤ k) (hk2 : k ≤ 9223372036854775807) (hk3 : -9223372036854775808 ≤ asked) (hk4 : asked ≤ 9223372036854775807)
    (hzl : zs.length ≤ 17592186043904) (hfz : Fits zs) (hlz : Lst w.heap.size w aa ca zs) (hll : label.length ≤ 17592186043904) (hfl : Fits label) (hl : Lst w.heap.size w al cl label) :
    Calls Tryz.prog 3 #[.int .i64 p, .int .i64 z, .int .i64 s, .int .i64 k, .slice aa zs.length ca, .int .i64 asked, .slice al label.length cl] w fun e w' => e = .returned (.bool true) ∧ Below w.heap.size w w' := by
  by_cases hg : Good5 p z s
  · obtain ⟨q, k', rfl, rfl, hg⟩ := hg
    exact oshows_good FD CK q k' s k asked aa al ca cl zs label w hg hs1 hs2 hk1 hk2 hk3 hk4 hzl hfz hlz hll hfl hl
  · have HFD := hid FD
    clear FD CK hzl hfz hlz hll hfl hl
    go_enter Tryz.func3, Tryz.ntmps3
    go_wp2_with fail
    refine (lives5_any HFD.out w).mono ?_
    rintro e w0 ⟨rfl, hb0⟩
    have HB0 := hid hb0
    clear hb0
    go_wp2_with fail
    refine (plain5_no p z s w0 hg hp1 hp2 hz1 hz2 hs1 hs2).mono ?_
    rintro e w1 ⟨rfl, hb1⟩
    have HB1 : Hid (Below w.heap.size w w1) := HB0.out.trans (hb1.mono HB0.out.size)
    clear hb1
    go_wp2_with fail
    go_ret
    exact ⟨rfl, HB1.out⟩

end Go.Proofs.YtgcjpddpolaofahGreat
