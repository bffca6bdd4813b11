/- FoldChecks: the walk. -/
import Derived.Test.YtfppkjpgihnibaaGreatDoorFolG
import Derived.Test.YtfppkjpgihnibaaGreatDoorFolM
import Derived.Test.YtfppkjpgihnibaaGreatDoorSitC
namespace Go.Proofs.YtfppkjpgihnibaaGreatDoor
open Go.RowKit

set_option maxRecDepth 100000 in
set_option maxHeartbeats 1000000 in
theorem chains5_any (N0 q n d s b cap : Nat) (a : Option Addr) (l : List Int) (w : World) (h23 : 23 ≤ q) (h4 : q ≤ 2147483647) (ok : SpgOk q n d) (hs : SpgAt w s b q n d) (hN : N0 ≤ w.heap.size) (hsN : s < N0) (hbN : b < N0) (hlen : l.length ≤ 17592186043904) (hfl : Fits l) (hl : Lst w.heap.size w a cap l) :
    Calls Tryz.prog 7 #[.pointer (some ⟨s, 0, none⟩), .int .i64 q, .slice a l.length cap] w fun e w' => ∃ c r, e = .returned (.tuple #[.pointer (some ⟨c, 0, none⟩), .pointer (some ⟨r, 0, none⟩)]) ∧ w.heap.size ≤ c ∧ c < r ∧ PCh N0 q n w' c (digl q n (2 :: l)) ∧ RCh q w' r (digl q n (2 :: l)) ∧ Below w.heap.size w w' := by
  have HPW := hid ok.pw
  have HF := hid hfl
  have HL := hid hl
  have HN := hid (cnew_any N0 q n d s b cap a l w ok hs hN hsN hbN hlen hfl hl)
  clear ok hs hfl hl hsN hbN
  go_enter Tryz.func7, Tryz.ntmps7
  go_wp2_with fail
  refine HN.out.mono ?_
  rintro e w1 ⟨c, rfl, hc, hP, hb1⟩
  have HP := hid hP
  have HB1 := hid hb1
  have HC := hid hc
  have HLT := hid hP.lt
  have HBG := hid (rbegin_any q n cap a l w1 (by omega) h4 HPW.out (by omega) HF.out ((HL.out.below hb1).mono hb1.size))
  clear hP hb1 hc HN
  go_wp2_with fail
  refine HBG.out.mono ?_
  rintro e w2 ⟨r, rfl, hr, hR, hb2⟩
  have HX : Hid (PCh N0 q n w2 c (digl q n (2 :: l)) ∧ RCh q w2 r (digl q n (2 :: l)) ∧ Below w.heap.size w w2) := ⟨HP.out.below hb2, hR, HB1.out.trans (hb2.mono HB1.out.size)⟩
  clear hR hb2 HBG HP
  go_wp2_with fail
  go_ret2
  exact ⟨c, r, rfl, HC.out, by have := HLT.out; omega, HX.out.1, HX.out.2.1, HX.out.2.2⟩

set_option maxRecDepth 100000 in
set_option maxHeartbeats 1000000 in
theorem cdigest_row (N0 q n c : Nat) (D : List Int) (w : World) (hP : PCh N0 q n w c D) (hD : Dig D) :
    Calls Tryz.prog 15 #[.pointer (some ⟨c, 0, none⟩)] w fun e w' => ∃ a N, e = .returned (.slice a 4 N) ∧ NumL w' a N D ∧ Below w.heap.size w w' := by
  have hD4 := hD.1
  obtain ⟨s, b, d, _, _, _, _, _, hblk⟩ := hP
  have HCL := hid (clone_own (some ⟨c, 1, none⟩) 4 D w (by omega) (by omega) (five_lst hD4 hblk))
  rw [hD4] at HCL
  clear hblk hD
  go_enter Tryz.func15, Tryz.ntmps15
  go_wp2_with fail
  refine HCL.out.mono ?_
  rintro e w1 ⟨v, rfl, hown, hb⟩
  have hown4 : w1.ownsRow w.heap.size 3 1 v D.length (D.map (Value.int .i64)) := by rw [hD4]; exact hown
  obtain ⟨a2, c2, hv2, hl2⟩ := numL_of_owns hown4
  rw [hD4] at hv2
  subst hv2
  have HE : Hid (NumL w1 a2 c2 D ∧ Below w.heap.size w w1) := ⟨hl2, hb⟩
  clear hown hown4 hl2 hb HCL
  go_wp2_with fail
  go_ret
  exact ⟨a2, c2, rfl, HE.out⟩

/-- what stands behind the chains -/
structure OcS (w : World) (N0 q n c m O G O2 : Nat) (vo vq vw : Array Value) (b1 b2 b3 : Option Addr) (d1 d2 d3 : Nat) (roots : List (List Int)) (last : List Int) (os : List OnZ) (Dc Dm : List Int) (W : World) : Prop where
  bel : Below w.heap.size w W
  ob : W.heap[O]? = some (.cells vo 36 (0, 0))
  gd : W.heap[G]? = some (.cells vq 26 (0, 0))
  ow : W.heap[O2]? = some (.cells vw 36 (0, 0))
  fd : FdAt W b1 b2 b3 d1 d2 d3 roots last os
  pc : PCh N0 q n W c Dc
  rc : RCh q W m Dm
  hn : w.heap.size ≤ N0
  hm : N0 ≤ m
  ne : c ≠ m
theorem gb_typ {W W' : World} {s O : Nat} {c c' : Array Value} {t t' : TypeId} {f f' : Nat × Nat} (g : W.grownBy W' (some s)) (hs : W.heap[s]? = some (.cells c t f)) (hO : W.heap[O]? = some (.cells c' t' f')) (hne : t' ≠ t) : W'.heap[O]? = some (.cells c' t' f') :=
  (gb_blk g (Array.getElem?_eq_some_iff.1 hO).1 (by
    rintro rfl
    rw [hs] at hO
    injection hO with hO
    injection hO with _ h3 _
    exact hne h3.symm)).trans hO
theorem OcS.step {w : World} {N0 q n c m O G O2 : Nat} {vo vq vw : Array Value} {b1 b2 b3 : Option Addr} {d1 d2 d3 : Nat} {roots : List (List Int)} {last : List Int} {os : List OnZ} {Dc Dm : List Int} {W W' : World} (h : OcS w N0 q n c m O G O2 vo vq vw b1 b2 b3 d1 d2 d3 roots last os Dc Dm W) (e : Below W.heap.size W W') : OcS w N0 q n c m O G O2 vo vq vw b1 b2 b3 d1 d2 d3 roots last os Dc Dm W' :=
  ⟨h.bel.trans (e.mono h.bel.size), (e.block _ (Array.getElem?_eq_some_iff.1 h.ob).1).trans h.ob, (e.block _ (Array.getElem?_eq_some_iff.1 h.gd).1).trans h.gd, (e.block _ (Array.getElem?_eq_some_iff.1 h.ow).1).trans h.ow, h.fd.ko (KO.below e), h.pc.below e, h.rc.below e, h.hn, h.hm, h.ne⟩
theorem OcS.prog {w : World} {N0 q n c m O G O2 : Nat} {vo vq vw : Array Value} {b1 b2 b3 : Option Addr} {d1 d2 d3 : Nat} {roots : List (List Int)} {last : List Int} {os : List OnZ} {Dc Dm Dc' : List Int} {W W' : World} (h : OcS w N0 q n c m O G O2 vo vq vw b1 b2 b3 d1 d2 d3 roots last os Dc Dm W) (g : W.grownBy W' (some c)) (p : PCh N0 q n W' c Dc') : OcS w N0 q n c m O G O2 vo vq vw b1 b2 b3 d1 d2 d3 roots last os Dc' Dm W' := by
  obtain ⟨_, _, _, _, _, _, _, hge, hblk⟩ := h.pc
  have hK : KO W W' := KO.oth hblk (by decide) (by decide) (by decide) g.size (fun b hb hne => gb_blk g hb hne)
  have hn := h.hn
  exact ⟨h.bel.trans (gb_to g (by omega) h.bel.size), gb_typ g hblk h.ob (by decide), gb_typ g hblk h.gd (by decide), gb_typ g hblk h.ow (by decide), h.fd.ko hK, p, h.rc.blocks g.size (gb_blk g h.rc.lt (Ne.symm h.ne)) (fun b cs f hg => hK.1.2 b cs _ f hg (.inl rfl)), h.hn, h.hm, h.ne⟩
theorem OcS.refs {w : World} {N0 q n c m O G O2 : Nat} {vo vq vw : Array Value} {b1 b2 b3 : Option Addr} {d1 d2 d3 : Nat} {roots : List (List Int)} {last : List Int} {os : List OnZ} {Dc Dm Dm' : List Int} {W W' : World} (h : OcS w N0 q n c m O G O2 vo vq vw b1 b2 b3 d1 d2 d3 roots last os Dc Dm W) (g : W.grownBy W' (some m)) (r : RCh q W' m Dm') : OcS w N0 q n c m O G O2 vo vq vw b1 b2 b3 d1 d2 d3 roots last os Dc Dm' W' ∧ KO W W' := by
  obtain ⟨_, _, hblk, _⟩ := h.rc
  have hK : KO W W' := KO.oth hblk (by decide) (by decide) (by decide) g.size (fun b hb hne => gb_blk g hb hne)
  have hn := h.hn
  have hm := h.hm
  have hge := h.pc.ge
  have hlt := h.pc.lt
  exact ⟨⟨h.bel.trans (gb_to g (by omega) h.bel.size), gb_typ g hblk h.ob (by decide), gb_typ g hblk h.gd (by decide), gb_typ g hblk h.ow (by decide), h.fd.ko hK, h.pc.blocks (gb_blk g h.pc.lt h.ne) (fun b hb => gb_blk g (by omega) (by omega)), r, h.hn, h.hm, h.ne⟩, hK⟩

set_option maxRecDepth 100000 in
set_option maxHeartbeats 4000000 in
theorem ochecks_good (CK : OckAs) (q K : Nat) (s k asked : Int) (al a1 a2 a3 : Option Addr) (cl c1 c2 c3 : Nat) (label : List Int) (roots : List (List Int)) (last : List Int) (os : List OnZ) (w : World) (hL : Laid w) (hg : GoodAt q K s) (hs1 : -9223372036854775808 ≤ s) (hs2 : s ≤ 9223372036854775807) (hk1 : -9223372036854775808 ≤ k) (hk2 : k ≤ 9223372036854775807) (hk3 : -9223372036854775808 ≤ asked) (hk4 : asked ≤ 9223372036854775807)
    (hll : label.length ≤ 17592186043904) (hfl : Fits label) (hl : Lst w.heap.size w al cl label) (hB : FdB roots last os) (x1 : LstR w.heap.size w a1 c1 roots) (x2 : Lst w.heap.size w a2 c2 last) (x3 : LstF w.heap.size w a3 c3 os) :
    Calls Tryz.prog 4 #[.int .i64 q, .int .i64 ((2 ^ K : Nat) : Int), .int .i64 s, .int .i64 k, .int .i64 asked, .slice al label.length cl, .agg #[.slice a1 roots.length c1, .slice a2 last.length c2, .slice a3 os.length c3]] w fun e w' => e = .returned (.bool true) ∧ Below w.heap.size w w' := by
  have HG := hid hg
  obtain ⟨hpr, h3, h4, hK, hd, hs⟩ := hg
  have HB := hid hB
  have HFL := hid hfl
  have HLB := hid hl
  have HX1 := hid x1
  have HX2 := hid x2
  have HX3 := hid x3
  have HCK := hid CK
  obtain ⟨t0, t1⟩ := emod_bounds s q h3
  have hba : Below w.heap.size w (w.alloc (.cells #[.slice a1 roots.length c1, .slice a2 last.length c2, .slice a3 os.length c3] 36)) := (Below.refl _ _).alloc (Nat.le_refl _) _
  have HB0 := hid hba
  have HO0 : Hid ((w.alloc (.cells #[.slice a1 roots.length c1, .slice a2 last.length c2, .slice a3 os.length c3] 36)).heap[w.heap.size]? = some (.cells #[.slice a1 roots.length c1, .slice a2 last.length c2, .slice a3 os.length c3] 36 (0, 0))) := heap_alloc_new w _
  have HS0 : Hid (w.heap.size < (w.alloc (.cells #[.slice a1 roots.length c1, .slice a2 last.length c2, .slice a3 os.length c3] 36)).heap.size) := by unfold Hid; simp
  have HL0 := hid (hL.below hba)
  have HM := hid (fun w1 hl => made5_yes q K s w1 hl HG.out hs1 hs2)
  have HSI := hid (fun (W w1 : World) (b d r : Nat) (hlw : Laid W) (z1 : RootIs q ((2 ^ K : Nat) : Int) r) (z2 : w1.cell? ⟨b, 0, none⟩ = some (.int .i64 q)) (z3 : DomAt w1 d b ((2 ^ K : Nat) : Int) r (s % (q : Int))) (z4 : Below W.heap.size W w1) => sit_of HG.out hlw z1 z2 z3 z4)
  have HPC := hid (fun (N0 n dd b d sp bs c : Nat) (r t : Int) (b1 b2 b3 : Option Addr) (e1 e2 e3 : Nat) (D : List Int) (W : World) => CK N0 q n dd b d sp bs c K r t k asked b1 b2 b3 e1 e2 e3 roots last os D W)
  have HRC := hid (fun (n rch : Nat) (r t : Int) (D : List Int) (W : World) (h5 : 5 ≤ q) hpn hr0 hr1 hs0 hs1 hD hch hn0 (hb : Below w.heap.size w W) => rcheck5_all q n K rch w.heap.size r t k asked a1 a2 a3 c1 c2 c3 roots last os D W h5 h4 hpn hK hr0 hr1 hs0 hs1 hD hch hn0 HB.out (HX1.out.below hb) (HX2.out.below hb) (HX3.out.below hb))
  have HCL := hid (fun (n : Nat) (r t : Int) (D : List Int) => cko_len q n K r t k asked roots last os D hK)
  clear hpr hd hs hB hfl hl x1 x2 x3 CK hba hL hK HCK
  generalize 2 ^ K = N at *
  generalize s % (q : Int) = t at *
  go_enter Tryz.func4, Tryz.ntmps4
  go_wp2_with fail
  obtain ⟨W0, hW0⟩ : ∃ W0, W0 = w.alloc (.cells #[.slice a1 roots.length c1, .slice a2 last.length c2, .slice a3 os.length c3] 36) := ⟨_, rfl⟩
  rw [← hW0] at HB0 HO0 HS0 HL0 ⊢
  clear hW0
  refine (HM.out W0 HL0.out).mono ?_
  rintro e w1 ⟨b, d, r, v, rfl, hr, hc, hda, hsp, hb1⟩
  have hba : Below w1.heap.size w1 (w1.alloc (.cells #[.int .i64 q, .int .i64 N, .int .i64 t, .int .i64 r] 26)) := (Below.refl _ _).alloc (Nat.le_refl _) _
  have HS2 := hid (HSI.out W0 w1 b d r HL0.out hr hc hda hb1)
  have HP2 := hid (hsp.step hba)
  clear hr hc hda hsp hb1 hba HM HSI HL0
  rcases HP2.out with ⟨_, rfl⟩ | ⟨h23, sp, bs, n, dd, rfl, hok, hat⟩
  · have HE : Hid (Below w.heap.size w (w1.alloc (.cells #[.int .i64 q, .int .i64 N, .int .i64 t, .int .i64 r] 26))) := HB0.out.trans (HS2.out.below.mono HB0.out.size)
    clear HP2 HS2 HPC HRC
    go_wp2_with fail
    go_ret
    exact ⟨rfl, HE.out⟩
  · obtain ⟨w2, hw2⟩ : ∃ w2, w2 = w1.alloc (.cells #[.int .i64 q, .int .i64 N, .int .i64 t, .int .i64 r] 26) := ⟨_, rfl⟩
    rw [← hw2] at HS2 hat
    have HOK := hid hok
    have HAT := hid hat
    have hr0 := HS2.out.dom.hr0
    have hr1 := HS2.out.dom.hr1
    have HBW : Hid (Below w.heap.size w w2) := HB0.out.trans (HS2.out.below.mono HB0.out.size)
    have HCH := hid (chains5_any w2.heap.size q n dd sp bs cl al label w2 h23 h4 hok hat (Nat.le_refl _) hat.lt hat.ltb hll HFL.out ((HLB.out.below HBW.out).mono HBW.out.size))
    have HDG : Hid (Dig (digl q n (2 :: label))) := dig_digl h3 h4 _ _
    rw [hw2] at HCH
    clear HP2 hok hat
    go_wp2_with fail
    refine HCH.out.mono ?_
    rw [← hw2]
    clear hw2 HCH
    rintro e w3 ⟨c, m, rfl, hc3, hcm, hP3, hR3, hb3⟩
    generalize digl q n (2 :: label) = D at *
    have HP3 := hid hP3
    have HR3 := hid hR3
    have HC3 := hid hc3
    have HCM := hid hcm
    have HB3 : Hid (Below w.heap.size w w3) := HBW.out.trans (hb3.mono HBW.out.size)
    have HDB : Hid (Below w2.heap.size w2 w3) := hb3
    have HBo : Hid (Below W0.heap.size W0 w3) := HS2.out.below.trans (hb3.mono HS2.out.below.size)
    have HO3 := hid ((HBo.out.block _ HS0.out).trans HO0.out)
    have o0 := thr0 HO3.out
    have o1 := thr1 HO3.out
    have o2 := thr2 HO3.out
    have HFO := hid (foldeds_I c1 c2 c3 a1 a2 a3 roots last os w3 (by have := HB.out.r1; omega) (fun k hk => by have := HB.out.r2 k hk; omega) (by have := HB.out.l1; omega) (by have := HB.out.o1; omega) (fun k hk => by
      obtain ⟨z1, z2, z3, z4, z5, _⟩ := HB.out.o2 k hk
      exact ⟨by omega, by omega, by omega, fun j hj => by have := z4 j hj; omega, fun j hj => by have := z5 j hj; omega⟩) ((HX1.out.below HB3.out).mono HB3.out.size) ((HX2.out.below HB3.out).mono HB3.out.size) ((HX3.out.below HB3.out).mono HB3.out.size))
    clear hP3 hR3 hc3 hcm hb3
    go_wp2_with fail
    refine HFO.out.mono ?_
    rintro e w4 ⟨b1, d1, b2, d2, b3, d3, rfl, g1, g2, g3, hb4⟩
    have hs4 : w3.heap.size ≤ w4.heap.size := hb4.size
    have hba4 : Below w4.heap.size w4 (w4.alloc (.cells #[.slice b1 roots.length d1, .slice b2 last.length d2, .slice b3 os.length d3] 36)) := (Below.refl _ _).alloc (Nat.le_refl _) _
    have hb5 : Below w3.heap.size w3 (w4.alloc (.cells #[.slice b1 roots.length d1, .slice b2 last.length d2, .slice b3 os.length d3] 36)) := hb4.trans (hba4.mono hb4.size)
    have HC5 : Hid (OcS w w2.heap.size q n c m w.heap.size w1.heap.size w4.heap.size #[.slice a1 roots.length c1, .slice a2 last.length c2, .slice a3 os.length c3] #[.int .i64 q, .int .i64 N, .int .i64 t, .int .i64 r] #[.slice b1 roots.length d1, .slice b2 last.length d2, .slice b3 os.length d3] b1 b2 b3 d1 d2 d3 roots last os D D (w4.alloc (.cells #[.slice b1 roots.length d1, .slice b2 last.length d2, .slice b3 os.length d3] 36))) := by
      obtain ⟨u1, n1, y1, l1⟩ := g1.lrt
      obtain ⟨u3, n3, y3, l3⟩ := g3.lft
      injection y1 with q1 _ q3
      injection y3 with q4 _ q6
      subst q1 q3 q4 q6
      have hq := quad_arr HS2.out.quad
      have hql := (Array.getElem?_eq_some_iff.1 hq).1
      have hbq := HDB.out.trans (hb5.mono HDB.out.size)
      exact ⟨HB3.out.trans (hb5.mono HB3.out.size), (hb5.block _ (Array.getElem?_eq_some_iff.1 HO3.out).1).trans HO3.out, (hbq.block _ hql).trans hq, heap_alloc_new w4 _, FdAt.ko ⟨l1, g2, l3⟩ (KO.below hba4), HP3.out.below hb5, HR3.out.below hb5, HBW.out.size, by have := HC3.out; have := HCM.out; omega, by have := HCM.out; omega⟩
    have HDB5 : Hid (Below w2.heap.size w2 (w4.alloc (.cells #[.slice b1 roots.length d1, .slice b2 last.length d2, .slice b3 os.length d3] 36))) := HDB.out.trans (hb5.mono HDB.out.size)
    have HPK := hid (HPC.out w2.heap.size n dd b d sp bs c r t b1 b2 b3 d1 d2 d3 D _ (fun W' h => HS2.out.dom.step (HDB5.out.trans h)) HOK.out (HAT.out.keep HDB5.out) HAT.out.lt HAT.out.ltb HC5.out.pc HDG.out HB.out HC5.out.fd.fdc hk1 hk2 hk3 hk4)
    have HRK := hid (fun W => HRC.out n m r t D W (by omega) HOK.out.pw hr0 hr1 t0 t1 HDG.out)
    have HXL := hid (HCL.out n r t D)
    have HXD := hid (cko_dig q n K r t k asked roots last os D h3 h4 HDG.out)
    generalize cko q n K r t k asked roots last os D = X at *
    have HLM : Hid (w.heap.size ≤ m) := Nat.le_trans HC5.out.hn HC5.out.hm
    clear g1 g2 g3 hb4 hba4 hb5 HFO HPC HRC HCL HB3 HDB HBo HO3 o0 o1 o2 HP3 HR3 HDB5
    go_wp2_with fail
    refine HPK.out.mono ?_
    rintro e w6 ⟨av, cv, rfl, hl6, hP6, hg6⟩
    have HC6 := hid (HC5.out.prog hg6 hP6)
    have HL6 := hid hl6
    obtain ⟨A, X1, ok⟩ := X
    have o0 := thr0 HC6.out.ob
    have o1 := thr1 HC6.out.ob
    have o2 := thr2 HC6.out.ob
    have z0 := four0 HC6.out.gd
    have z1 := four1 HC6.out.gd
    have z2 := four2 HC6.out.gd
    have z3 := four3 HC6.out.gd
    have HR6 := hid (HRK.out w6 HC6.out.rc HLM.out HC6.out.bel)
    clear hl6 hP6 hg6 HPK HC5 HRK
    go_wp2_with fail
    refine HR6.out.mono ?_
    rintro e w7 ⟨av', cv', rfl, hl7, hR7, hg7⟩
    obtain ⟨hC7, hK7⟩ := HC6.out.refs hg7 hR7
    have HC7 := hid hC7
    have HI7 := hid (ints_same _ _ X1 av av' cv cv' w7 (HL6.out.ki hK7.1).1.row hl7.row (Nat.le_trans (show X1.length ≤ 64 from HXL.out) (by omega)))
    clear hl7 hR7 hg7 hC7 hK7 HR6 HC6 HL6 o0 o1 o2 z0 z1 z2 z3
    go_wp2_with fail
    refine HI7.out.mono ?_
    rintro e w8 ⟨rfl, n8, rfl⟩
    have HC8 := hid (HC7.out.step (below_drewN (Below.refl _ _) n8))
    clear HI7 HC7
    generalize w7.drewN n8 = w8 at *
    have HDG8 := hid (cdigest_row w2.heap.size q n c A w8 HC8.out.pc HXD.out)
    go_wp2_with fail
    refine HDG8.out.mono ?_
    rintro e w9 ⟨ag, Ng, rfl, hrow, hb9⟩
    have HC9 := hid (HC8.out.step hb9)
    obtain ⟨ad, cd, hrb, hrn⟩ := HC9.out.rc
    have hD4 : A.length = 4 := HXD.out.1
    rw [show (A, X1, ok).1.length = 4 from hD4] at hrb
    have x3 := duo1 hrb
    have HIN := hid (ints_same _ _ A ag ad Ng cd w9 hrow.1.row hrn.1.row (by rw [hD4]; omega))
    rw [hD4] at HIN
    clear hrow hb9 hrn hrb HDG8 HC8 hD4
    go_wp2_with fail
    refine HIN.out.mono ?_
    rintro e w10 ⟨rfl, n10, rfl⟩
    have HC10 := hid (HC9.out.step (below_drewN (Below.refl _ _) n10))
    clear HIN HC9 x3
    generalize w9.drewN n10 = w10 at *
    have o0 := thr0 HC10.out.ob
    have o1 := thr1 HC10.out.ob
    have o2 := thr2 HC10.out.ob
    have p0 := thr0 HC10.out.ow
    have p1 := thr1 HC10.out.ow
    have p2 := thr2 HC10.out.ow
    have hcc : (ok == ok) = true := by simp
    have HFS := hid (folds_same d1 d2 d3 c1 c2 c3 b1 b2 b3 a1 a2 a3 roots last os w10 (by have := HB.out.r1; omega) (fun k hk => by have := HB.out.r2 k hk; omega) (by have := HB.out.l1; omega) (by have := HB.out.o1; omega) (fun k hk => by
      obtain ⟨z1, z2, z3, z4, z5, _⟩ := HB.out.o2 k hk
      exact ⟨by omega, by omega, by omega, fun j hj => by have := z4 j hj; omega, fun j hj => by have := z5 j hj; omega⟩) HC10.out.fd.r.lst ((HX1.out.below HC10.out.bel).mono HC10.out.bel.size) HC10.out.fd.l.1.row ((HX2.out.below HC10.out.bel).mono HC10.out.bel.size).row HC10.out.fd.o.lst ((HX3.out.below HC10.out.bel).mono HC10.out.bel.size))
    go_wp2_with fail
    refine HFS.out.mono ?_
    rintro e w11 ⟨rfl, hb11⟩
    have HE := hid (HC10.out.step hb11).bel
    clear hb11 HFS HC10 o0 o1 o2 p0 p1 p2
    go_wp2_with fail
    go_ret
    exact ⟨rfl, HE.out⟩

set_option maxRecDepth 100000 in
theorem ochecks_walk (CK : OckAs) (p z s k asked : Int) (al a1 a2 a3 : Option Addr) (cl c1 c2 c3 : Nat) (label : List Int) (roots : List (List Int)) (last : List Int) (os : List OnZ) (w : World) (hL : Laid w) (hp1 : -9223372036854775808 ≤ p) (hp2 : p ≤ 9223372036854775807) (hz1 : -9223372036854775808 ≤ z) (hz2 : z ≤ 9223372036854775807) (hs1 : -9223372036854775808 ≤ s) (hs2 : s ≤ 9223372036854775807) (hk1 : -9223372036854775808 ≤ k) (hk2 : k ≤ 9223372036854775807) (hk3 : -9223372036854775808 ≤ asked) (hk4 : asked ≤ 9223372036854775807)
    (hll : label.length ≤ 17592186043904) (hfl : Fits label) (hl : Lst w.heap.size w al cl label) (hB : FdB roots last os) (x1 : LstR w.heap.size w a1 c1 roots) (x2 : Lst w.heap.size w a2 c2 last) (x3 : LstF w.heap.size w a3 c3 os) :
    Calls Tryz.prog 4 #[.int .i64 p, .int .i64 z, .int .i64 s, .int .i64 k, .int .i64 asked, .slice al label.length cl, .agg #[.slice a1 roots.length c1, .slice a2 last.length c2, .slice a3 os.length c3]] w fun e w' => e = .returned (.bool true) ∧ Below w.heap.size w w' := by
  by_cases hgood : Good p z s
  · obtain ⟨q, K, rfl, rfl, hg⟩ := hgood
    exact ochecks_good CK q K s k asked al a1 a2 a3 cl c1 c2 c3 label roots last os w hL hg hs1 hs2 hk1 hk2 hk3 hk4 hll hfl hl hB x1 x2 x3
  · have HB0 : Hid (Below w.heap.size w (w.alloc (.cells #[.slice a1 roots.length c1, .slice a2 last.length c2, .slice a3 os.length c3] 36))) := (Below.refl _ _).alloc (Nat.le_refl _) _
    have HM := hid (made5_no p z s _ (hL.below HB0.out) hgood hp1 hp2 hz1 hz2 hs1 hs2)
    clear hfl hl hB x1 x2 x3 CK hll hgood
    go_enter Tryz.func4, Tryz.ntmps4
    go_wp2_with fail
    refine HM.out.mono ?_
    rintro e w1 ⟨rfl, hb1⟩
    have hba : Below w1.heap.size w1 (w1.alloc (.cells #[.int .i64 0, .int .i64 0, .int .i64 0, .int .i64 0] 26)) := (Below.refl _ _).alloc (Nat.le_refl _) _
    have HE : Hid (Below w.heap.size w (w1.alloc (.cells #[.int .i64 0, .int .i64 0, .int .i64 0, .int .i64 0] 26))) := (HB0.out.trans (hb1.mono HB0.out.size)).trans (hba.mono (Nat.le_trans HB0.out.size hb1.size))
    clear hb1 hba HM
    go_wp2_with fail
    go_ret
    exact ⟨rfl, HE.out⟩

end Go.Proofs.YtfppkjpgihnibaaGreatDoor
