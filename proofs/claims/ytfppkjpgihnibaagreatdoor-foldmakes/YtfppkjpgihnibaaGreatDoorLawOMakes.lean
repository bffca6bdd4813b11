/- FoldMakes: the walk. -/
import Derived.Test.YtfppkjpgihnibaaGreatDoorFogm
import Derived.Test.YtfppkjpgihnibaaGreatDoorLawOChecks
import Derived.Test.YtfppkjpgihnibaaGreatDoorRefF
import Derived.Test.YtfppkjpgihnibaaGreatDoorFolZ
namespace Go.Proofs.YtfppkjpgihnibaaGreatDoor
open Go.RowKit

/-- what stands in FoldMakes -/
structure LmS (w : World) (N0 q n c m G : Nat) (vq : Array Value) (ao : Option Addr) (co : Nat) (word Dc Dm : List Int) (W : World) : Prop where
  bel : Below w.heap.size w W
  gd : W.heap[G]? = some (.cells vq 26 (0, 0))
  ow : NumL W ao co word
  pc : PCh N0 q n W c Dc
  rc : RCh q W m Dm
  hn : w.heap.size ≤ N0
  hc : N0 ≤ c
  hm : N0 ≤ m
  ne : c ≠ m
section
variable {w W W' : World} {N0 q n c m G : Nat} {vq : Array Value} {ao : Option Addr} {co : Nat} {word Dc Dm : List Int}
theorem LmS.step (h : LmS w N0 q n c m G vq ao co word Dc Dm W) (e : Below W.heap.size W W') : LmS w N0 q n c m G vq ao co word Dc Dm W' :=
  ⟨h.bel.trans (e.mono h.bel.size), (e.block _ (Array.getElem?_eq_some_iff.1 h.gd).1).trans h.gd, h.ow.ki (KI.below e), h.pc.below e, h.rc.below e, h.hn, h.hc, h.hm, h.ne⟩
theorem LmS.own {ao' : Option Addr} {co' : Nat} {word' : List Int} (h : LmS w N0 q n c m G vq ao co word Dc Dm W) (x : NumL W ao' co' word') : LmS w N0 q n c m G vq ao' co' word' Dc Dm W := ⟨h.bel, h.gd, x, h.pc, h.rc, h.hn, h.hc, h.hm, h.ne⟩
theorem LmS.prog {Dc' : List Int} (h : LmS w N0 q n c m G vq ao co word Dc Dm W) (g : W.grownBy W' (some c)) (p : PCh N0 q n W' c Dc') : LmS w N0 q n c m G vq ao co word Dc' Dm W' := by
  obtain ⟨cs, f, hblk⟩ := h.pc.typ
  have hK : KI W W' := KI.oth hblk (by decide) (by decide) g.size (fun b hb hne => gb_blk g hb hne)
  have hn := h.hn
  have hc := h.hc
  exact ⟨h.bel.trans (gb_to g (by omega) h.bel.size), gb_typ g hblk h.gd (by decide), h.ow.ki hK, p, h.rc.blocks g.size (gb_blk g h.rc.lt (Ne.symm h.ne)) (fun g' cs' f' hg => hK.2 g' cs' _ f' hg (.inl rfl)), h.hn, h.hc, h.hm, h.ne⟩
theorem LmS.refs {Dm' : List Int} (h : LmS w N0 q n c m G vq ao co word Dc Dm W) (g : W.grownBy W' (some m)) (r : RCh q W' m Dm') : LmS w N0 q n c m G vq ao co word Dc Dm' W' := by
  obtain ⟨_, _, hblk, _⟩ := h.rc
  have hK : KI W W' := KI.oth hblk (by decide) (by decide) g.size (fun b hb hne => gb_blk g hb hne)
  have hn := h.hn
  have hm := h.hm
  have hlt := h.pc.lt
  have hge := h.pc.ge
  exact ⟨h.bel.trans (gb_to g (by omega) h.bel.size), gb_typ g hblk h.gd (by decide), h.ow.ki hK, h.pc.blocks (gb_blk g h.pc.lt h.ne) (fun b hb => gb_blk g (by omega) (by omega)), r, h.hn, h.hc, h.hm, h.ne⟩
end

theorem LmS.put {w W W' : World} {N0 q n c m G V : Nat} {vq : Array Value} {ao : Option Addr} {co : Nat} {word Dc Dm : List Int} {cs : Array Value} {f : Nat × Nat} (h : LmS w N0 q n c m G vq ao co word Dc Dm W) (hO : W.heap[V]? = some (.cells cs 36 f)) (hV : N0 ≤ V) (hs : W.heap.size ≤ W'.heap.size) (e : ∀ b, b ≠ V → W'.heap[b]? = W.heap[b]?) (hb : Below w.heap.size w W') : LmS w N0 q n c m G vq ao co word Dc Dm W' := by
  have hK : KI W W' := KI.oth hO (by decide) (by decide) hs (fun b _ hne => e b hne)
  have hty : ∀ {b : Nat} {c' : Array Value} {t' : TypeId} {f' : Nat × Nat}, W.heap[b]? = some (.cells c' t' f') → t' ≠ 36 → b ≠ V := fun {b c' t' f'} hg hne => by
    rintro rfl
    rw [hO] at hg
    injection hg with hg
    injection hg with _ h2 _
    exact hne h2.symm
  obtain ⟨_, _, hpb⟩ := h.pc.typ
  obtain ⟨_, _, hrb, _⟩ := h.rc
  exact ⟨hb, (e _ (hty h.gd (by decide))).trans h.gd, h.ow.ki hK, h.pc.blocks (e _ (hty hpb (by decide))) (fun b hb' => e b (by omega)), h.rc.blocks hs (e _ (hty hrb (by decide))) (fun g cs' f' hg => hK.2 g cs' _ f' hg (.inl rfl)), h.hn, h.hc, h.hm, h.ne⟩
theorem OwnR.lstS {base : Nat} {w : World} {a : Option Addr} {n c : Nat} {rs : List (List Int)} (h : OwnR base w (.slice a n c) rs) : LstR w.heap.size w a c rs := by
  obtain ⟨a', c', hv, hl⟩ := h.lst
  injection hv with h1 _ h3
  subst h1 h3
  exact hl
theorem OwnI.lstS {base : Nat} {w : World} {a : Option Addr} {n c : Nat} {rs : List (List Int)} (h : OwnI base w (.slice a n c) rs) : LstR w.heap.size w a c rs := by
  obtain ⟨a', c', hv, hl⟩ := h.lst
  injection hv with h1 _ h3
  subst h1 h3
  exact hl
theorem OwnF.lstS {base : Nat} {w : World} {a : Option Addr} {n c : Nat} {rs : List OnZ} (h : OwnF base w (.slice a n c) rs) : LstF w.heap.size w a c rs := by
  obtain ⟨a', c', hv, hl⟩ := h.lst
  injection hv with h1 _ h3
  subst h1 h3
  exact hl
theorem folds_none (w : World) : Calls Tryz.prog 13 #[.agg #[.slice none 0 0, .slice none 0 0, .slice none 0 0], .agg #[.slice none 0 0, .slice none 0 0, .slice none 0 0]] w fun e w' => e = .returned (.bool true) ∧ Below w.heap.size w w' :=
  folds_same 0 0 0 0 0 0 none none none none none none [] [] [] w (by simp) (fun k hk => absurd hk (Nat.not_lt_zero _)) (by simp) (by simp) (fun k hk => absurd hk (Nat.not_lt_zero _)) ⟨fun k hk => absurd hk (Nat.not_lt_zero _), Nat.le_refl _, fun _ => rfl⟩ ⟨fun k hk => absurd hk (Nat.not_lt_zero _), Nat.le_refl _, fun _ => rfl⟩ (fun j hj => absurd hj (Nat.not_lt_zero _)) (fun j hj => absurd hj (Nat.not_lt_zero _)) ⟨fun k hk => absurd hk (Nat.not_lt_zero _), Nat.le_refl _, fun _ => rfl⟩ ⟨fun k hk => absurd hk (Nat.not_lt_zero _), Nat.le_refl _, fun _ => rfl⟩

set_option maxRecDepth 100000 in
set_option maxHeartbeats 4000000 in
theorem omakes_two (q K : Nat) (s k asked : Int) (aw al : Option Addr) (cw cl : Nat) (word label : List Int) (w : World) (hL : Laid w) (hg : GoodAt q K s) (hs1 : -9223372036854775808 ≤ s) (hs2 : s ≤ 9223372036854775807) (hk1 : -9223372036854775808 ≤ k) (hk2 : k ≤ 9223372036854775807)
    (hwl : word.length ≤ 17592186043904) (hfw : Fits word) (hlw : Lst w.heap.size w aw cw word) (hll : label.length ≤ 17592186043904) (hfl : Fits label) (hl : Lst w.heap.size w al cl label) (hbad : ¬ fz5 (2 ^ K) k asked = 0 ∨ ¬ word.length = 2 ^ K) :
    Calls Tryz.prog 3 #[.int .i64 q, .int .i64 ((2 ^ K : Nat) : Int), .int .i64 s, .int .i64 k, .slice aw word.length cw, .int .i64 asked, .slice al label.length cl] w fun e w' => e = .returned (.bool true) ∧ Below w.heap.size w w' := by
  have HG := hid hg
  obtain ⟨hpr, h3, h4, hK, hd, hs⟩ := hg
  have HFL := hid hfl
  have HLB := hid hl
  have HFW := hid hfw
  have HLW := hid hlw
  have HLD := hid hL
  obtain ⟨t0, t1⟩ := emod_bounds s q h3
  have HM := hid (made5_yes q K s w hL HG.out hs1 hs2)
  have HSI := hid (fun (W w1 : World) (b d r : Nat) (hlw : Laid W) (z1 : RootIs q ((2 ^ K : Nat) : Int) r) (z2 : w1.cell? ⟨b, 0, none⟩ = some (.int .i64 q)) (z3 : DomAt w1 d b ((2 ^ K : Nat) : Int) r (s % (q : Int))) (z4 : Below W.heap.size W w1) => sit_of HG.out hlw z1 z2 z3 z4)
  have HPR := hid hpr
  have HKK := hid hK
  have hN1 : 0 < 2 ^ K := Nat.two_pow_pos K
  have hN2 : 2 ^ K ≤ 65536 := two_pow_le hK
  obtain ⟨N, hN⟩ : ∃ N, N = 2 ^ K := ⟨_, rfl⟩
  have HNE := hid hN
  rw [← hN] at HM HSI hN1 hN2 ⊢
  obtain ⟨t, ht⟩ : ∃ t, t = s % (q : Int) := ⟨_, rfl⟩
  rw [← ht] at HM HSI t0 t1
  clear hpr hd hs hfl hl hfw hlw hL hK hN ht
  go_enter Tryz.func3, Tryz.ntmps3
  go_wp2_with fail
  refine HM.out.mono ?_
  rintro e w1 ⟨b, d, r, v, rfl, hr, hc, hda, hsp, hb1⟩
  have hba : Below w1.heap.size w1 (w1.alloc (.cells #[.int .i64 q, .int .i64 N, .int .i64 t, .int .i64 r] 26)) := (Below.refl _ _).alloc (Nat.le_refl _) _
  have HS2 := hid (HSI.out w w1 b d r HLD.out hr hc hda hb1)
  have HP2 := hid (hsp.step hba)
  clear hr hc hda hsp hb1 hba HM HSI HLD
  rcases HP2.out with ⟨_, rfl⟩ | ⟨h23, sp, bs, n, dd, rfl, hok, hat⟩
  · have HE := hid HS2.out.below
    clear HP2 HS2
    go_wp2_with fail
    go_ret
    exact ⟨rfl, HE.out⟩
  · obtain ⟨w2, hw2⟩ : ∃ w2, w2 = w1.alloc (.cells #[.int .i64 q, .int .i64 N, .int .i64 t, .int .i64 r] 26) := ⟨_, rfl⟩
    rw [← hw2] at HS2 hat
    have HOK := hid hok
    have HAT := hid hat
    have hr0 := HS2.out.dom.hr0
    have hr1 := HS2.out.dom.hr1
    have HBW := hid HS2.out.below
    have HCH := hid (chains5_any w2.heap.size q n dd sp bs cl al label w2 h23 h4 hok hat (Nat.le_refl _) hat.lt hat.ltb hll HFL.out ((HLB.out.below HBW.out).mono HBW.out.size))
    have HDG : Hid (Dig (digl q n (2 :: label))) := dig_digl h3 h4 _ _
    rw [hw2] at HCH
    clear HP2 hok hat
    go_wp2_with fail
    refine HCH.out.mono ?_
    rw [← hw2]
    clear hw2 HCH
    rintro e w3 ⟨c, m, rfl, hc3, hcm, hP3, hR3, hb3⟩
    generalize digl q n (2 :: label) = D at *
    have HB3 : Hid (Below w.heap.size w w3) := HBW.out.trans (hb3.mono HBW.out.size)
    have HLI := hid ((HLW.out.below HB3.out).mono HB3.out.size)
    have HC3 : Hid (LmS w w2.heap.size q n c m w1.heap.size #[.int .i64 q, .int .i64 N, .int .i64 t, .int .i64 r] none 0 [] D D w3) := by
      have hq := quad_arr HS2.out.quad
      exact ⟨HB3.out, (hb3.block _ (Array.getElem?_eq_some_iff.1 hq).1).trans hq, numL_nil _, hP3, hR3, HBW.out.size, hc3, by omega, by omega⟩
    have HS3 := hid (HS2.out.step hb3)
    have HDL : Hid (d < w2.heap.size ∧ b < w2.heap.size) := ⟨HS2.out.dom.dlt, HS2.out.dom.blt⟩
    have HA3 := hid (HAT.out.keep hb3)
    have HAL : Hid (sp < w2.heap.size ∧ bs < w2.heap.size) := ⟨HAT.out.lt, HAT.out.ltb⟩
    clear hc3 hcm hP3 hR3 hb3 HS2 HAT
    go_wp2_with (at_builtin; refine wpList_copyN w3 w3.heap.size w3.heap.size rfl rfl _ _ rfl rfl aw cw word rfl (by omega) (Nat.le_refl _) HLI.out ?_)
    intro ao co w4 hnl hb4
    have HC4 := hid ((HC3.out.step hb4).own hnl)
    have HS4 := hid (HS3.out.step hb4)
    have HA4 := hid (HA3.out.keep hb4)
    have HP4 : Hid (FmkP w2.heap.size q n dd b d sp bs c K r t word D ao co w4) := ⟨by rw [← HNE.out]; exact HS4.out.dom, HOK.out, HA4.out, HAL.out.1, HAL.out.2, HDL.out.1, HDL.out.2, HC4.out.pc, HDG.out, HKK.out, hwl, HFW.out, hnl.1⟩
    clear hnl hb4 HC3 HS3 HA3 HLI HA4 HB3
    have HMK : Hid (Calls Tryz.prog 8 #[.pointer (some ⟨sp, 0, none⟩), .pointer (some ⟨c, 0, none⟩), .pointer (some ⟨d, 0, none⟩), .int .i64 k, .slice ao word.length co, .int .i64 asked] w4 fun e w' => e = .returned (.tuple #[.agg #[.slice none 0 0, .slice none 0 0, .slice none 0 0], .slice none 0 0, .iface 86 (.int .i64 2)]) ∧ Below w4.heap.size w4 w') := by
      by_cases hz : fz5 (2 ^ K) k asked = 0
      · rcases hbad with h | h
        · exact absurd hz h
        · exact fmake_len w2.heap.size q n dd b d sp bs c K co r t k asked ao word D w4 HP4.out hk1 hk2 hz h
      · exact fmake_show w2.heap.size q n dd b d sp bs c K co r t k asked ao word D w4 HP4.out hk1 hk2 hz
    have HZZ : Hid (∃ Z : Int, Z = fz5 N k asked ∧ (((word.length : Int) != (N : Int)) = true ∨ (((word.length : Int) != (N : Int)) = false ∧ Z = 2))) := by
      refine ⟨_, rfl, ?_⟩
      rw [HNE.out]
      by_cases h : word.length = 2 ^ K
      · refine .inr ⟨by rw [h]; simp, ?_⟩
        rcases hbad with h2 | h2
        · revert h2
          unfold fz5
          split <;> simp
        · exact absurd h h2
      · exact .inl (by rw [bne_iff_ne]; omega)
    clear hbad
    go_wp2_with fail
    refine HMK.out.mono ?_
    rintro e w5 ⟨rfl, hb5⟩
    have hba : Below w5.heap.size w5 (w5.alloc (.cells #[.slice none 0 0, .slice none 0 0, .slice none 0 0] 36)) := (Below.refl _ _).alloc (Nat.le_refl _) _
    obtain ⟨W5, hW5⟩ : ∃ W5, W5 = w5.alloc (.cells #[.slice none 0 0, .slice none 0 0, .slice none 0 0] 36) := ⟨_, rfl⟩
    rw [← hW5] at hba
    have HO5 : Hid (W5.heap[w5.heap.size]? = some (.cells #[.slice none 0 0, .slice none 0 0, .slice none 0 0] 36 (0, 0))) := by unfold Hid; rw [hW5]; exact heap_alloc_new w5 _
    have HC5 := hid ((HC4.out.step hb5).step hba)
    have HL5 := hid ((HS4.out.step hb5).step hba).laid
    have d0 := four0 HC5.out.gd
    have d1 := four1 HC5.out.gd
    have d2 := four2 HC5.out.gd
    have d3 := four3 HC5.out.gd
    obtain ⟨Z, hZ, hcase⟩ := HZZ.out
    have HFA := hid (rfault5_any N q t r k asked W5 hN2)
    rw [← hZ] at HFA
    clear hb5 hba HMK HC4 HS4 HP4 HZZ hZ
    subst hW5
    go_wp2_with fail
    refine HFA.out.mono ?_
    rintro e w6 ⟨rfl, hb6⟩
    have HC6 := hid (HC5.out.step hb6)
    have HO6 := hid ((hb6.block _ (Array.getElem?_eq_some_iff.1 HO5.out).1).trans HO5.out)
    have HER := hid (error_hit 2 2 w6 (HL5.out.below hb6))
    have HLW6 := hid ((HLW.out.below HC6.out.bel).mono HC6.out.bel.size)
    clear hb6 HFA HC5 HO5 HL5 d0 d1 d2 d3
    generalize w5.heap.size = O at *
    rcases hcase with hb | ⟨hb, rfl⟩
    all_goals
      go_wp2_with fail
      refine HER.out.mono ?_
      rintro e w7 ⟨rfl, hb7⟩
      have HC7 := hid (HC6.out.step hb7)
      have HO7 := hid ((hb7.block _ (Array.getElem?_eq_some_iff.1 HO6.out).1).trans HO6.out)
      clear hb7 HER HC6 HO6
      have hba : Below w7.heap.size w7 (w7.alloc (.cells #[.slice none 0 0, .slice none 0 0, .slice none 0 0] 36)) := (Below.refl _ _).alloc (Nat.le_refl _) _
      have HV8 : Hid ((w7.alloc (.cells #[.slice none 0 0, .slice none 0 0, .slice none 0 0] 36)).heap[w7.heap.size]? = some (.cells #[.slice none 0 0, .slice none 0 0, .slice none 0 0] 36 (0, 0))) := heap_alloc_new w7 _
      have HC8 := hid (HC7.out.step hba)
      have HO8 := hid ((hba.block _ (Array.getElem?_eq_some_iff.1 HO7.out).1).trans HO7.out)
      have x0 := thr0 HO8.out
      have x1 := thr1 HO8.out
      have x2 := thr2 HO8.out
      have y0 := thr0 HV8.out
      have y1 := thr1 HV8.out
      have y2 := thr2 HV8.out
      have HFS := hid (folds_none (w7.alloc (.cells #[.slice none 0 0, .slice none 0 0, .slice none 0 0] 36)))
      clear hba HC7 HO7
      go_wp2_with fail
      refine HFS.out.mono ?_
      rintro e w9 ⟨rfl, hb9⟩
      have HC9 := hid (HC8.out.step hb9)
      clear hb9 HFS HC8 HO8 HV8 x0 x1 x2 y0 y1 y2
      have HI9 := hid (ints_same w9.heap.size w9.heap.size [] none none 0 0 w9 (fun j hj => absurd hj (Nat.not_lt_zero _)) (fun j hj => absurd hj (Nat.not_lt_zero _)) (by simp))
      go_wp2_with fail
      refine HI9.out.mono ?_
      rintro e w10 ⟨rfl, n10, rfl⟩
      have HC10 := hid (HC9.out.step (below_drewN (Below.refl _ _) n10))
      clear HI9 HC9
      generalize w9.drewN n10 = w10 at *
      have HDS := hid (cdigest_row w2.heap.size q n c D w10 HC10.out.pc HDG.out)
      go_wp2_with fail
      refine HDS.out.mono ?_
      rintro e w11 ⟨ag, Ng, rfl, hrow, hb11⟩
      have HC11 := hid (HC10.out.step hb11)
      obtain ⟨ad, cd, hrb, hrn⟩ := HC11.out.rc
      have hD4 : D.length = 4 := HDG.out.1
      rw [hD4] at hrb
      have x3 := duo1 hrb
      have HIN := hid (ints_same _ _ D ag ad Ng cd w11 hrow.1.row hrn.1.row (by rw [hD4]; omega))
      rw [hD4] at HIN
      clear hrow hb11 hrn hrb HDS HC10 hD4
      go_wp2_with fail
      refine HIN.out.mono ?_
      rintro e w12 ⟨rfl, n12, rfl⟩
      have HC12 := hid (HC11.out.step (below_drewN (Below.refl _ _) n12))
      clear HIN HC11 x3
      generalize w11.drewN n12 = w12 at *
      have HIW := hid (ints_same _ _ word ao aw co cw w12 HC12.out.ow.1.row ((HLW.out.below HC12.out.bel).mono HC12.out.bel.size).row (by omega))
      go_wp2_with fail
      refine HIW.out.mono ?_
      rintro e w13 ⟨rfl, n13, rfl⟩
      have HE := hid (HC12.out.step (below_drewN (Below.refl _ _) n13)).bel
      clear HIW HC12
      generalize w12.drewN n13 = w13 at *
      go_wp2_with fail
      go_ret
      exact ⟨rfl, HE.out⟩

theorem OwnR.lenM {base : Nat} {w : World} {v : Value} {rs : List (List Int)} (h : OwnR base w v rs) : rs.length ≤ maxLen := by
  obtain ⟨vals, h1, _⟩ := h
  rcases h1.2 with ⟨_, h0⟩ | ⟨g, cap, cur, _, _, _, hn, hm, _⟩
  · omega
  · omega
theorem mem_rat {rs : List (List Int)} {k : Nat} (h : k < rs.length) : rat rs k ∈ rs := by
  simp [rat, h]
theorem elr_lenM (q : Nat) (l : List Int) : (elr q l).length = l.length := by unfold elr; rw [ls_len]
theorem ndf_fourM (q n : Nat) : ∀ (k : Nat) (rows : List (List Int)) (ps : List Int) (first : Int) (x : List Int), x ∈ ndf q n k rows ps first → x.length = 4
  | 0, _, _, _, _, hx => by simp [ndf] at hx
  | k + 1, rows, ps, first, x, hx => by
    simp only [ndf] at hx
    split at hx
    · rw [List.mem_singleton] at hx
      rw [hx]
      exact rtf_len _ _ _ _ (by omega)
    · split at hx
      · cases hx
      · rcases List.mem_append.1 hx with h | h
        · exact ndf_fourM q n k _ _ _ x h
        · exact ndf_fourM q n k _ _ _ x h
theorem mko_bounds {q n K : Nat} {r t : Int} {word D : List Int} {m a i : Nat} (hw : word.length = 2 ^ K) (hi : i < K) (ha : a ≤ 64) :
    (mko q n K r t word D m a i).ps.length ≤ 9223372036854775807 ∧ (mko q n K r t word D m a i).rows.length ≤ 9223372036854775807 ∧ (∀ j, j < (mko q n K r t word D m a i).rows.length → (rat (mko q n K r t word D m a i).rows j).length ≤ 9223372036854775807) ∧ (∀ j, j < (mko q n K r t word D m a i).nodes.length → (rat (mko q n K r t word D m a i).nodes j).length ≤ 9223372036854775807) := by
  have hps : (mko q n K r t word D m a i).ps = mdz (mkA q n K r t word D m a) (2 ^ (K - i - 1)) := rfl
  have hrw : (mko q n K r t word D m a i).rows = shw q (mkt q n K r t word D i) (mko q n K r t word D m a i).ps := rfl
  have hnd : (mko q n K r t word D m a i).nodes = ndf q n (mkt q n K r t word D i).length (mkt q n K r t word D i) (mko q n K r t word D m a i).ps 0 := rfl
  have h1 : (mko q n K r t word D m a i).ps.length ≤ 64 := by
    rw [hps]
    refine Nat.le_trans (mdz_len _ _) ?_
    unfold mkA ckA
    rw [ls_len]
    exact ha
  refine ⟨by omega, by rw [hrw, shw_len]; omega, fun j hj => ?_, fun j hj => ?_⟩
  · have hm : rat (mko q n K r t word D m a i).rows j ∈ (mko q n K r t word D m a i).ps.map (fun x => elr q (rat (mkt q n K r t word D i) x.toNat)) := mem_rat hj
    obtain ⟨x, hx, e⟩ := List.mem_map.1 hm
    rw [← e, elr_lenM]
    rw [hps] at hx
    have hx2 := mdz_in (Nat.two_pow_pos _) x hx
    have hl := mkt_len (q := q) (n := n) (r := r) (s := t) (word := word) (D := D) hw hi
    have hlt : x.toNat < (mkt q n K r t word D i).length := by omega
    have hlt2 := hlt
    rw [mkt, prs5_len] at hlt2
    rw [mkt, prs5_rat hlt2]
    simp
  · have hm : rat (mko q n K r t word D m a i).nodes j ∈ ndf q n (mkt q n K r t word D i).length (mkt q n K r t word D i) (mko q n K r t word D m a i).ps 0 := mem_rat hj
    have := ndf_fourM q n _ _ _ _ _ hm
    omega

set_option maxRecDepth 100000 in
set_option maxHeartbeats 4000000 in
theorem omakes_rest (q K J a : Nat) (s : Int) (aw al : Option Addr) (cw cl : Nat) (word label : List Int) (w : World) (hL : Laid w) (hg : GoodAt q K s) (hs1 : -9223372036854775808 ≤ s) (hs2 : s ≤ 9223372036854775807) (hJ : J + 1 ≤ K) (ha1 : 1 ≤ a) (ha : a ≤ 64) (hlen : word.length = 2 ^ K)
    (hwl : word.length ≤ 17592186043904) (hfw : Fits word) (hlw : Lst w.heap.size w aw cw word) (hll : label.length ≤ 17592186043904) (hfl : Fits label) (hl : Lst w.heap.size w al cl label) :
    Calls Tryz.prog 3 #[.int .i64 q, .int .i64 ((2 ^ K : Nat) : Int), .int .i64 s, .int .i64 ((2 ^ J : Nat) : Int), .slice aw word.length cw, .int .i64 (a : Int), .slice al label.length cl] w fun e w' => e = .returned (.bool true) ∧ Below w.heap.size w w' := by
  have HG := hid hg
  obtain ⟨hpr, h3, h4, hK, hd, hs⟩ := hg
  have HFL := hid hfl
  have HLB := hid hl
  have HFW := hid hfw
  have HLW := hid hlw
  have HLD := hid hL
  obtain ⟨t0, t1⟩ := emod_bounds s q h3
  have HM := hid (made5_yes q K s w hL HG.out hs1 hs2)
  have HSI := hid (fun (W w1 : World) (b d r : Nat) (hlw : Laid W) (z1 : RootIs q ((2 ^ K : Nat) : Int) r) (z2 : w1.cell? ⟨b, 0, none⟩ = some (.int .i64 q)) (z3 : DomAt w1 d b ((2 ^ K : Nat) : Int) r (s % (q : Int))) (z4 : Below W.heap.size W w1) => sit_of HG.out hlw z1 z2 z3 z4)
  have HPR := hid hpr
  have HKK := hid hK
  have hN1 : 0 < 2 ^ K := Nat.two_pow_pos K
  have hN2 : 2 ^ K ≤ 65536 := two_pow_le hK
  obtain ⟨N, hN⟩ : ∃ N, N = 2 ^ K := ⟨_, rfl⟩
  have HNE := hid hN
  have HJJ : Hid (J + 1 ≤ K ∧ 1 ≤ a ∧ a ≤ 64) := ⟨hJ, ha1, ha⟩
  have HLE := hid hlen
  have hNJ1 : 2 ^ J ≤ 65536 := two_pow_le (by omega)
  have hNJ0 : 0 < 2 ^ J := Nat.two_pow_pos J
  have HJK : Hid (2 ^ J ≤ 2 ^ K) := Nat.pow_le_pow_right (by omega) (by omega)
  obtain ⟨NJ, hNJ⟩ : ∃ NJ, NJ = 2 ^ J := ⟨_, rfl⟩
  have HNJ := hid hNJ
  rw [← hNJ] at hNJ1 hNJ0 ⊢
  have hne : ((word.length : Int) != (N : Int)) = false := by rw [hlen, ← hN]; simp
  clear hNJ hlen hJ
  rw [← hN] at HM HSI hN1 hN2 ⊢
  obtain ⟨t, ht⟩ : ∃ t, t = s % (q : Int) := ⟨_, rfl⟩
  rw [← ht] at HM HSI t0 t1
  clear hpr hd hs hfl hl hfw hlw hL hK hN ht
  go_enter Tryz.func3, Tryz.ntmps3
  go_wp2_with fail
  refine HM.out.mono ?_
  rintro e w1 ⟨b, d, r, v, rfl, hr, hc, hda, hsp, hb1⟩
  have hba : Below w1.heap.size w1 (w1.alloc (.cells #[.int .i64 q, .int .i64 N, .int .i64 t, .int .i64 r] 26)) := (Below.refl _ _).alloc (Nat.le_refl _) _
  have HS2 := hid (HSI.out w w1 b d r HLD.out hr hc hda hb1)
  have HP2 := hid (hsp.step hba)
  clear hr hc hda hsp hb1 hba HM HSI HLD
  rcases HP2.out with ⟨_, rfl⟩ | ⟨h23, sp, bs, n, dd, rfl, hok, hat⟩
  · have HE := hid HS2.out.below
    clear HP2 HS2
    go_wp2_with fail
    go_ret
    exact ⟨rfl, HE.out⟩
  · obtain ⟨w2, hw2⟩ : ∃ w2, w2 = w1.alloc (.cells #[.int .i64 q, .int .i64 N, .int .i64 t, .int .i64 r] 26) := ⟨_, rfl⟩
    rw [← hw2] at HS2 hat
    have HOK := hid hok
    have HAT := hid hat
    have hr0 := HS2.out.dom.hr0
    have hr1 := HS2.out.dom.hr1
    have HBW := hid HS2.out.below
    have HCH := hid (chains5_any w2.heap.size q n dd sp bs cl al label w2 h23 h4 hok hat (Nat.le_refl _) hat.lt hat.ltb hll HFL.out ((HLB.out.below HBW.out).mono HBW.out.size))
    have HDG : Hid (Dig (digl q n (2 :: label))) := dig_digl h3 h4 _ _
    rw [hw2] at HCH
    clear HP2 hok hat
    go_wp2_with fail
    refine HCH.out.mono ?_
    rw [← hw2]
    clear hw2 HCH
    rintro e w3 ⟨c, m, rfl, hc3, hcm, hP3, hR3, hb3⟩
    generalize digl q n (2 :: label) = D at *
    have HB3 : Hid (Below w.heap.size w w3) := HBW.out.trans (hb3.mono HBW.out.size)
    have HLI := hid ((HLW.out.below HB3.out).mono HB3.out.size)
    have HC3 : Hid (LmS w w2.heap.size q n c m w1.heap.size #[.int .i64 q, .int .i64 N, .int .i64 t, .int .i64 r] none 0 [] D D w3) := by
      have hq := quad_arr HS2.out.quad
      exact ⟨HB3.out, (hb3.block _ (Array.getElem?_eq_some_iff.1 hq).1).trans hq, numL_nil _, hP3, hR3, HBW.out.size, hc3, by omega, by omega⟩
    have HS3 := hid (HS2.out.step hb3)
    have HDL : Hid (d < w2.heap.size ∧ b < w2.heap.size) := ⟨HS2.out.dom.dlt, HS2.out.dom.blt⟩
    have HA3 := hid (HAT.out.keep hb3)
    have HAL : Hid (sp < w2.heap.size ∧ bs < w2.heap.size) := ⟨HAT.out.lt, HAT.out.ltb⟩
    clear hc3 hcm hP3 hR3 hb3 HS2 HAT
    go_wp2_with (at_builtin; refine wpList_copyN w3 w3.heap.size w3.heap.size rfl rfl _ _ rfl rfl aw cw word rfl (by omega) (Nat.le_refl _) HLI.out ?_)
    intro ao co w4 hnl hb4
    have HC4 := hid ((HC3.out.step hb4).own hnl)
    have HS4 := hid (HS3.out.step hb4)
    have HA4 := hid (HA3.out.keep hb4)
    have HP4 : Hid (FmkP w2.heap.size q n dd b d sp bs c K r t word D ao co w4) := ⟨by rw [← HNE.out]; exact HS4.out.dom, HOK.out, HA4.out, HAL.out.1, HAL.out.2, HDL.out.1, HDL.out.2, HC4.out.pc, HDG.out, HKK.out, hwl, HFW.out, hnl.1⟩
    clear hnl hb4 HC3 HS3 HA3 HLI HA4 HB3
    have HFZ : Hid (fz5 N (NJ : Int) (a : Int) = 0) := by unfold Hid; rw [HNE.out, HNJ.out]; exact fz5_ok HKK.out HJJ.out.1 HJJ.out.2.1 HJJ.out.2.2
    by_cases hi : (bk q (2 ^ K) r t word).length ≤ 2 ^ J
    · have HMK := hid (fmake_good w2.heap.size q n dd b d sp bs c K co J a r t ao word D w4 HP4.out HJJ.out.1 HJJ.out.2.1 HJJ.out.2.2 HLE.out hi)
      rw [← HNJ.out] at HMK
      have hdec : decide (1 ≤ (NJ : Int) ∧ (NJ : Int) ≤ (N : Int) ∧ word.length = N ∧ ((bk q N r t word).length : Int) ≤ (NJ : Int)) = true := by
        rw [decide_eq_true_eq, HNE.out, HNJ.out]
        have := HJK.out
        have h0 : 0 < 2 ^ J := Nat.two_pow_pos J
        exact ⟨by omega, by omega, HLE.out, by omega⟩
      obtain ⟨M, hM⟩ : ∃ M, M = J - 2 := ⟨_, rfl⟩
      have hM16 : M + 1 ≤ K := by have := HJJ.out.1; omega
      rw [← hM] at HMK
      have HME := hid hM
      clear hi hM
      go_wp2_with fail
      refine HMK.out.mono ?_
      rintro e w5 ⟨b1, d1, b2, d2, b3, d3, ap, cp, rfl, g1, g2, g3, g4, g5, hg5⟩
      obtain ⟨nL, hnL⟩ : ∃ nL, nL = (mkl q n K r t word D M).length := ⟨_, rfl⟩
      rw [← hnL]
      have HNL := hid hnL
      obtain ⟨D5, hD5⟩ : ∃ D5, D5 = pld q n a (ckL q n (mkR q n K r t word D M) (mkl q n K r t word D M) D M) := ⟨_, rfl⟩
      rw [← hD5] at g5
      have HD5 := hid hD5
      have HDG5 : Hid (Dig D5) := by unfold Hid; rw [hD5]; exact dig_pld h3 h4 n (by unfold ckL; exact dig_digl h3 h4 _ _) a
      have hba : Below w5.heap.size w5 (w5.alloc (.cells #[.slice b1 M d1, .slice b2 nL d2, .slice b3 M d3] 36)) := (Below.refl _ _).alloc (Nat.le_refl _) _
      obtain ⟨W5, hW5⟩ : ∃ W5, W5 = w5.alloc (.cells #[.slice b1 M d1, .slice b2 nL d2, .slice b3 M d3] 36) := ⟨_, rfl⟩
      rw [← hW5] at hba
      have HO5 : Hid (W5.heap[w5.heap.size]? = some (.cells #[.slice b1 M d1, .slice b2 nL d2, .slice b3 M d3] 36 (0, 0))) := by unfold Hid; rw [hW5]; exact heap_alloc_new w5 _
      have HC5 := hid ((HC4.out.prog hg5 g5).step hba)
      have HE5 : Hid (FmkE q n K M a r t word D b1 b2 b3 ap d1 d2 d3 cp w4.heap.size W5) := FmkE.step ⟨g1, g2, g3, g4⟩ hba
      have d0 := four0 HC5.out.gd
      have d1' := four1 HC5.out.gd
      have d2' := four2 HC5.out.gd
      have d3' := four3 HC5.out.gd
      have HFA := hid (rfault5_any N q t r (NJ : Int) (a : Int) W5 hN2)
      rw [HFZ.out] at HFA
      clear hg5 hba HMK HC4 HS4 HP4 g1 g2 g3 g4 g5 hnL hD5 HFZ
      subst hW5
      go_wp2_with fail
      refine HFA.out.mono ?_
      rintro e w6 ⟨rfl, hb6⟩
      have HC6 := hid (HC5.out.step hb6)
      have HE6 := hid (HE5.out.step hb6)
      have HO6 := hid ((hb6.block _ (Array.getElem?_eq_some_iff.1 HO5.out).1).trans HO5.out)
      have HLW6 := hid ((HLW.out.below HC6.out.bel).mono HC6.out.bel.size)
      have HIS := hid (ris_any q N cw (NJ : Int) r t aw word w6 HPR.out h3 h4 hN1 hN2 hr0 hr1 t0 t1 (by omega) (by omega) (by omega) HFW.out HLW6.out.row)
      rw [hdec] at HIS
      clear hb6 HFA HC5 HO5 HE5 d0 d1' d2' d3' hdec
      generalize w5.heap.size = O at *
      have d0 := four0 HC6.out.gd
      have d1' := four1 HC6.out.gd
      have d2' := four2 HC6.out.gd
      have d3' := four3 HC6.out.gd
      go_wp2_with fail
      refine HIS.out.mono ?_
      rintro e w7 ⟨rfl, hb7⟩
      have hbv : Below w7.heap.size w7 (w7.alloc (.cells #[.slice none 0 0, .slice none 0 0, .slice none 0 0] 36)) := (Below.refl _ _).alloc (Nat.le_refl _) _
      have HC7 := hid ((HC6.out.step hb7).step hbv)
      have HE7 := hid ((HE6.out.step hb7).step hbv)
      have HO7 := hid ((hbv.block _ (Nat.lt_of_lt_of_le (Array.getElem?_eq_some_iff.1 HO6.out).1 hb7.size)).trans ((hb7.block _ (Array.getElem?_eq_some_iff.1 HO6.out).1).trans HO6.out))
      have HV7 : Hid ((w7.alloc (.cells #[.slice none 0 0, .slice none 0 0, .slice none 0 0] 36)).heap[w7.heap.size]? = some (.cells #[.slice none 0 0, .slice none 0 0, .slice none 0 0] 36 (0, 0))) := heap_alloc_new w7 _
      have HER := hid (error_nil 0 w7)
      have HRM := hid (rmake5_any q n K J m a w.heap.size cw r t aw word D (w7.alloc (.cells #[.slice none 0 0, .slice none 0 0, .slice none 0 0] 36)) HPR.out (by omega) h4 HOK.out.pw HKK.out HJJ.out.1 HJJ.out.2.1 HJJ.out.2.2 hr0 hr1 t0 t1 HDG.out HC7.out.rc (Nat.le_trans HC7.out.hn HC7.out.hm) HLE.out HFW.out (HLW.out.below HC7.out.bel))
      rw [← HNJ.out, ← HNE.out, ← HME.out, ← HNL.out] at HRM
      clear d0 d1' d2' d3'
      have d0 := four0 HC7.out.gd
      have d1' := four1 HC7.out.gd
      have d2' := four2 HC7.out.gd
      have d3' := four3 HC7.out.gd
      have HOV : Hid (O ≠ w7.heap.size ∧ w2.heap.size ≤ w7.heap.size) := by
        have h7 := (Array.getElem?_eq_some_iff.1 HO6.out).1
        have h8 := hb7.size
        have h9 := HC6.out.pc.lt
        have h10 := HC6.out.hc
        exact ⟨by omega, by omega⟩
      have HLL : Hid (nL ≤ 65536) := by
        unfold Hid
        rw [HNL.out]
        have h7 := bk_len q (2 ^ (K - M)) (sqi q r M) (sqi q t M) (mks q n K r t word D M).1
        have h8 : 2 ^ (K - M) ≤ 65536 := two_pow_le (by have := HKK.out; omega)
        exact Nat.le_trans h7 h8
      clear hb7 hbv HC6 HE6 HO6 HIS HLW6
      go_wp2_with fail
      refine HER.out.mono ?_
      rintro e w7' ⟨rfl, rfl⟩
      go_wp2_with fail
      refine HRM.out.mono ?_
      rintro e w8 ⟨f1, e1, f2, e2, f3, e3, av, cv, rfl, k1, k2, k3, k4, k5, hg8⟩
      rw [← HD5.out] at k5
      have HC8 := hid (HC7.out.refs hg8 k5)
      obtain ⟨_, _, hmb, _⟩ := HC7.out.rc
      have HE8 := hid (HE7.out.oneC hmb (.inr (.inl rfl)) hg8.size (fun x hx hne => gb_blk hg8 hx hne))
      have HO8 := hid (gb_typ hg8 hmb HO7.out (by decide))
      have HV8 := hid (gb_typ hg8 hmb HV7.out (by decide))
      generalize w7'.heap.size = V at *
      have HV9 := hid (thr_put HV8.out (.slice f1 M e1) (.slice f2 nL e2) (.slice f3 M e3))
      have hoth := fun x (hx : x ≠ V) => thr_oth w8 V x hx (.slice f1 M e1) (.slice f2 nL e2) (.slice f3 M e3)
      have hzz : w8.heap.size ≤ (((w8.setCell ⟨V, 0, none⟩ (.slice f1 M e1)).setCell ⟨V, 1, none⟩ (.slice f2 nL e2)).setCell ⟨V, 2, none⟩ (.slice f3 M e3)).heap.size := by simp [World.setCell]
      have hwV : w.heap.size ≤ V := Nat.le_trans HC8.out.hn HOV.out.2
      have HC9 := hid (HC8.out.put HV8.out HOV.out.2 hzz hoth (((HC8.out.bel.setCell (p := ⟨V, 0, none⟩) hwV _).setCell (p := ⟨V, 1, none⟩) hwV _).setCell (p := ⟨V, 2, none⟩) hwV _))
      have HE9 := hid (HE8.out.oneC (W' := ((w8.setCell ⟨V, 0, none⟩ (.slice f1 M e1)).setCell ⟨V, 1, none⟩ (.slice f2 nL e2)).setCell ⟨V, 2, none⟩ (.slice f3 M e3)) HV8.out (.inr (.inr rfl)) hzz (fun x _ hx => hoth x hx))
      have hki : KI w8 (((w8.setCell ⟨V, 0, none⟩ (.slice f1 M e1)).setCell ⟨V, 1, none⟩ (.slice f2 nL e2)).setCell ⟨V, 2, none⟩ (.slice f3 M e3)) := KI.oth HV8.out (by decide) (by decide) hzz (fun x _ hx => hoth x hx)
      have HO9 := hid ((hoth _ HOV.out.1).trans HO8.out)
      have HK1 := hid (k1.ki hki)
      have HK2 := hid (k2.ki hki)
      have HK3 := hid (k3.oneC HV8.out (.inr (.inr rfl)) hzz (fun x _ hx => hoth x hx))
      have HK4 := hid (k4.ki hki)
      have v0 := thr0 HV8.out
      have v1 := thr1 HV8.out
      have v2 := thr2 HV8.out
      have z0 := thrF HV8.out 0
      have z1 := thrF HV8.out 1
      have z2 := thrF HV8.out 2
      have x0 := thr0 HO9.out
      have x1 := thr1 HO9.out
      have x2 := thr2 HO9.out
      have y0 := thr0 HV9.out
      have y1 := thr1 HV9.out
      have y2 := thr2 HV9.out
      have HFS := hid (folds_same d1 d2 d3 e1 e2 e3 b1 b2 b3 f1 f2 f3 (mkR q n K r t word D M) (mkl q n K r t word D M) (mkO q n K r t word D M a) _ (by rw [mkR_len]; have := HKK.out; omega) (fun k hk => by
          rw [mkR_len] at hk
          rw [mkR_rat hk, mkr_len HLE.out (by omega)]
          omega) (by rw [← HNL.out]; have := HLL.out; omega) (by rw [mkO_len]; have := HKK.out; omega) (fun k hk => by
          rw [mkO_len] at hk
          rw [mkO_onat hk]
          have hbd := mko_bounds (q := q) (n := n) (K := K) (r := (r : Int)) (t := t) (word := word) (D := D) (m := M) (a := a) (i := k) HLE.out (by omega) HJJ.out.2.2
          obtain ⟨vals, _, hv⟩ := HE9.out.ops
          obtain ⟨_, _, vn, _, _, _, _, _, hnn⟩ := hv k (by rw [mkO_len]; exact hk)
          rw [mkO_onat hk] at hnn
          have := hnn.lenM
          unfold maxLen at this
          exact ⟨hbd.1, hbd.2.1, by omega, hbd.2.2.1, hbd.2.2.2⟩) HE9.out.rts.lstS HK1.out.lstS HE9.out.lst.1.row HK2.out.1.row HE9.out.ops.lstS HK3.out.lstS)
      rw [mkR_len, mkO_len, ← HNL.out] at HFS
      clear k1 k2 k3 k4 k5 hg8 hmb hoth hzz hki HRM HC7 HC8 HE7 HE8 HO7 HO8 HV7 d0 d1' d2' d3' HK1 HK2 HK3
      go_wp2_with fail
      refine HFS.out.mono ?_
      rintro e w10 ⟨rfl, hb10⟩
      have HC10 := hid (HC9.out.step hb10)
      have HE10 := hid (HE9.out.step hb10)
      have HA10 := hid (HK4.out.ki (KI.below hb10))
      clear hb10 HFS HC9 HE9 HO9 HV9 HV8 HK4 x0 x1 x2 y0 y1 y2 v0 v1 v2 z0 z1 z2
      have HI10 := hid (ints_same _ _ (mkA q n K r t word D M a) ap av cp cv w10 HE10.out.pls.1.row HA10.out.1.row (by unfold mkA ckA; rw [ls_len]; omega))
      rw [show (mkA q n K r t word D M a).length = a from by unfold mkA ckA; rw [ls_len]] at HI10
      go_wp2_with fail
      refine HI10.out.mono ?_
      rintro e w11 ⟨rfl, n11, rfl⟩
      have HC11 := hid (HC10.out.step (below_drewN (Below.refl _ _) n11))
      clear HI10 HC10 HE10 HA10
      generalize w10.drewN n11 = w11 at *
      have HDS := hid (cdigest_row w2.heap.size q n c D5 w11 HC11.out.pc HDG5.out)
      go_wp2_with fail
      refine HDS.out.mono ?_
      rintro e w12 ⟨ag, Ng, rfl, hrow, hb12⟩
      have HC12 := hid (HC11.out.step hb12)
      obtain ⟨ad, cd, hrb, hrn⟩ := HC12.out.rc
      have hD4 : D5.length = 4 := HDG5.out.1
      rw [hD4] at hrb
      have x3 := duo1 hrb
      have HIN := hid (ints_same _ _ D5 ag ad Ng cd w12 hrow.1.row hrn.1.row (by rw [hD4]; omega))
      rw [hD4] at HIN
      clear hrow hb12 hrn hrb HDS HC11 hD4
      go_wp2_with fail
      refine HIN.out.mono ?_
      rintro e w13 ⟨rfl, n13, rfl⟩
      have HC13 := hid (HC12.out.step (below_drewN (Below.refl _ _) n13))
      clear HIN HC12 x3
      generalize w12.drewN n13 = w13 at *
      have HIW := hid (ints_same _ _ word ao aw co cw w13 HC13.out.ow.1.row ((HLW.out.below HC13.out.bel).mono HC13.out.bel.size).row (by omega))
      go_wp2_with fail
      refine HIW.out.mono ?_
      rintro e w14 ⟨rfl, n14, rfl⟩
      have HE := hid (HC13.out.step (below_drewN (Below.refl _ _) n14)).bel
      clear HIW HC13
      generalize w13.drewN n14 = w14 at *
      go_wp2_with fail
      go_ret
      exact ⟨rfl, HE.out⟩
    · have HMK := hid (fmake_code w2.heap.size q n dd b d sp bs c K co r t (NJ : Int) (a : Int) ao word D w4 HP4.out (by omega) (by omega) (by rw [← HNE.out]; exact HFZ.out) HLE.out (by rw [HNJ.out]; omega))
      have hdec : decide (1 ≤ (NJ : Int) ∧ (NJ : Int) ≤ (N : Int) ∧ word.length = N ∧ ((bk q N r t word).length : Int) ≤ (NJ : Int)) = false := by
        rw [decide_eq_false_iff_not, HNE.out, HNJ.out]
        rintro ⟨_, _, _, h⟩
        exact hi (by omega)
      clear hi
      go_wp2_with fail
      refine HMK.out.mono ?_
      rintro e w5 ⟨rfl, hb5⟩
      have hba : Below w5.heap.size w5 (w5.alloc (.cells #[.slice none 0 0, .slice none 0 0, .slice none 0 0] 36)) := (Below.refl _ _).alloc (Nat.le_refl _) _
      obtain ⟨W5, hW5⟩ : ∃ W5, W5 = w5.alloc (.cells #[.slice none 0 0, .slice none 0 0, .slice none 0 0] 36) := ⟨_, rfl⟩
      rw [← hW5] at hba
      have HO5 : Hid (W5.heap[w5.heap.size]? = some (.cells #[.slice none 0 0, .slice none 0 0, .slice none 0 0] 36 (0, 0))) := by unfold Hid; rw [hW5]; exact heap_alloc_new w5 _
      have HC5 := hid ((HC4.out.step hb5).step hba)
      have HL5 := hid ((HS4.out.step hb5).step hba).laid
      have d0 := four0 HC5.out.gd
      have d1 := four1 HC5.out.gd
      have d2 := four2 HC5.out.gd
      have d3 := four3 HC5.out.gd
      have HFA := hid (rfault5_any N q t r (NJ : Int) (a : Int) W5 hN2)
      rw [HFZ.out] at HFA
      clear hb5 hba HMK HC4 HS4 HP4 HFZ
      subst hW5
      go_wp2_with fail
      refine HFA.out.mono ?_
      rintro e w6 ⟨rfl, hb6⟩
      have HC6 := hid (HC5.out.step hb6)
      have HO6 := hid ((hb6.block _ (Array.getElem?_eq_some_iff.1 HO5.out).1).trans HO5.out)
      have HL6 := hid (HL5.out.below hb6)
      have HLW6 := hid ((HLW.out.below HC6.out.bel).mono HC6.out.bel.size)
      have HIS := hid (ris_any q N cw (NJ : Int) r t aw word w6 HPR.out h3 h4 hN1 hN2 hr0 hr1 t0 t1 (by omega) (by omega) (by omega) HFW.out HLW6.out.row)
      rw [hdec] at HIS
      clear hb6 HFA HC5 HO5 HL5 d0 d1 d2 d3 hdec
      generalize w5.heap.size = O at *
      have d0 := four0 HC6.out.gd
      have d1 := four1 HC6.out.gd
      have d2 := four2 HC6.out.gd
      have d3 := four3 HC6.out.gd
      go_wp2_with fail
      refine HIS.out.mono ?_
      rintro e w6' ⟨rfl, hb6⟩
      have HC6' := hid (HC6.out.step hb6)
      have HO6' := hid ((hb6.block _ (Array.getElem?_eq_some_iff.1 HO6.out).1).trans HO6.out)
      have HER := hid (error_hit 3 3 w6' (HL6.out.below hb6))
      clear hb6 HC6 HO6 HL6 HIS HLW6 d0 d1 d2 d3
      go_wp2_with fail
      refine HER.out.mono ?_
      rintro e w7 ⟨rfl, hb7⟩
      have HC7 := hid (HC6'.out.step hb7)
      have HO7 := hid ((hb7.block _ (Array.getElem?_eq_some_iff.1 HO6'.out).1).trans HO6'.out)
      clear hb7 HER HC6' HO6'
      have hba : Below w7.heap.size w7 (w7.alloc (.cells #[.slice none 0 0, .slice none 0 0, .slice none 0 0] 36)) := (Below.refl _ _).alloc (Nat.le_refl _) _
      have HV8 : Hid ((w7.alloc (.cells #[.slice none 0 0, .slice none 0 0, .slice none 0 0] 36)).heap[w7.heap.size]? = some (.cells #[.slice none 0 0, .slice none 0 0, .slice none 0 0] 36 (0, 0))) := heap_alloc_new w7 _
      have HC8 := hid (HC7.out.step hba)
      have HO8 := hid ((hba.block _ (Array.getElem?_eq_some_iff.1 HO7.out).1).trans HO7.out)
      have x0 := thr0 HO8.out
      have x1 := thr1 HO8.out
      have x2 := thr2 HO8.out
      have y0 := thr0 HV8.out
      have y1 := thr1 HV8.out
      have y2 := thr2 HV8.out
      have HFS := hid (folds_none (w7.alloc (.cells #[.slice none 0 0, .slice none 0 0, .slice none 0 0] 36)))
      clear hba HC7 HO7
      go_wp2_with fail
      refine HFS.out.mono ?_
      rintro e w9 ⟨rfl, hb9⟩
      have HC9 := hid (HC8.out.step hb9)
      clear hb9 HFS HC8 HO8 HV8 x0 x1 x2 y0 y1 y2
      have HI9 := hid (ints_same w9.heap.size w9.heap.size [] none none 0 0 w9 (fun j hj => absurd hj (Nat.not_lt_zero _)) (fun j hj => absurd hj (Nat.not_lt_zero _)) (by simp))
      go_wp2_with fail
      refine HI9.out.mono ?_
      rintro e w10 ⟨rfl, n10, rfl⟩
      have HC10 := hid (HC9.out.step (below_drewN (Below.refl _ _) n10))
      clear HI9 HC9
      generalize w9.drewN n10 = w10 at *
      have HDS := hid (cdigest_row w2.heap.size q n c D w10 HC10.out.pc HDG.out)
      go_wp2_with fail
      refine HDS.out.mono ?_
      rintro e w11 ⟨ag, Ng, rfl, hrow, hb11⟩
      have HC11 := hid (HC10.out.step hb11)
      obtain ⟨ad, cd, hrb, hrn⟩ := HC11.out.rc
      have hD4 : D.length = 4 := HDG.out.1
      rw [hD4] at hrb
      have x3 := duo1 hrb
      have HIN := hid (ints_same _ _ D ag ad Ng cd w11 hrow.1.row hrn.1.row (by rw [hD4]; omega))
      rw [hD4] at HIN
      clear hrow hb11 hrn hrb HDS HC10 hD4
      go_wp2_with fail
      refine HIN.out.mono ?_
      rintro e w12 ⟨rfl, n12, rfl⟩
      have HC12 := hid (HC11.out.step (below_drewN (Below.refl _ _) n12))
      clear HIN HC11 x3
      generalize w11.drewN n12 = w12 at *
      have HIW := hid (ints_same _ _ word ao aw co cw w12 HC12.out.ow.1.row ((HLW.out.below HC12.out.bel).mono HC12.out.bel.size).row (by omega))
      go_wp2_with fail
      refine HIW.out.mono ?_
      rintro e w13 ⟨rfl, n13, rfl⟩
      have HE := hid (HC12.out.step (below_drewN (Below.refl _ _) n13)).bel
      clear HIW HC12
      generalize w12.drewN n13 = w13 at *
      go_wp2_with fail
      go_ret
      exact ⟨rfl, HE.out⟩

set_option maxRecDepth 100000 in
theorem omakes_walk (p z s k asked : Int) (aw al : Option Addr) (cw cl : Nat) (word label : List Int) (w : World) (hL : Laid w) (hp1 : -9223372036854775808 ≤ p) (hp2 : p ≤ 9223372036854775807) (hz1 : -9223372036854775808 ≤ z) (hz2 : z ≤ 9223372036854775807) (hs1 : -9223372036854775808 ≤ s) (hs2 : s ≤ 9223372036854775807) (hk1 : -9223372036854775808 ≤ k) (hk2 : k ≤ 9223372036854775807)
    (hwl : word.length ≤ 17592186043904) (hfw : Fits word) (hlw : Lst w.heap.size w aw cw word) (hll : label.length ≤ 17592186043904) (hfl : Fits label) (hl : Lst w.heap.size w al cl label) :
    Calls Tryz.prog 3 #[.int .i64 p, .int .i64 z, .int .i64 s, .int .i64 k, .slice aw word.length cw, .int .i64 asked, .slice al label.length cl] w fun e w' => e = .returned (.bool true) ∧ Below w.heap.size w w' := by
  by_cases hgood : Good p z s
  · obtain ⟨q, K, rfl, rfl, hg⟩ := hgood
    by_cases hbad : ¬ fz5 (2 ^ K) k asked = 0 ∨ ¬ word.length = 2 ^ K
    · exact omakes_two q K s k asked aw al cw cl word label w hL hg hs1 hs2 hk1 hk2 hwl hfw hlw hll hfl hl hbad
    · have hz : fz5 (2 ^ K) k asked = 0 := Decidable.byContradiction fun h => hbad (.inl h)
      have hlen : word.length = 2 ^ K := Decidable.byContradiction fun h => hbad (.inr h)
      obtain ⟨J, a, rfl, rfl, hJ, ha1, ha⟩ := fz5_says (by obtain ⟨_, _, _, hK, _, _⟩ := hg; exact hK) hz
      exact omakes_rest q K J a s aw al cw cl word label w hL hg hs1 hs2 hJ ha1 ha hlen hwl hfw hlw hll hfl hl
  · have HM := hid (made5_no p z s w hL hgood hp1 hp2 hz1 hz2 hs1 hs2)
    clear hfl hl hfw hlw hll hgood
    go_enter Tryz.func3, Tryz.ntmps3
    go_wp2_with fail
    refine HM.out.mono ?_
    rintro e w1 ⟨rfl, hb1⟩
    have hba : Below w1.heap.size w1 (w1.alloc (.cells #[.int .i64 0, .int .i64 0, .int .i64 0, .int .i64 0] 26)) := (Below.refl _ _).alloc (Nat.le_refl _) _
    have HE : Hid (Below w.heap.size w (w1.alloc (.cells #[.int .i64 0, .int .i64 0, .int .i64 0, .int .i64 0] 26))) := hb1.trans (hba.mono hb1.size)
    clear hb1 hba HM
    go_wp2_with fail
    go_ret
    exact ⟨rfl, HE.out⟩

end Go.Proofs.YtfppkjpgihnibaaGreatDoor
