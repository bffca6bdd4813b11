/- attestref5.Make: the walk. -/
import Derived.Test.YtfppkjpgihnibaaGreatDoorFolz
import Derived.Test.YtfppkjpgihnibaaGreatDoorFooA
import Derived.Test.YtfppkjpgihnibaaGreatDoorFogz
import Derived.Test.YtfppkjpgihnibaaGreatDoorFogm
import Derived.Test.YtfppkjpgihnibaaGreatDoorFolG
namespace Go.Proofs.YtfppkjpgihnibaaGreatDoor
open Go.RowKit

theorem MkS.kc {n0 B rch q : Nat} {vq vf : Array Value} {v1 vt : Value} {R : List (List Int)} {T : List (List (List Int))} {aw : Option Addr} {cw : Nat} {wl Dc : List Int} {w W W' : World} (h : MkS n0 B rch q vq vf v1 vt R T aw cw wl Dc w W) (g : W.grownBy W' (some rch)) : KT W W' := by
  obtain ⟨_, _, hblk, _⟩ := h.rc
  exact KT.oth hblk (by decide) (by decide) (by decide) (by decide) g.size (fun b hb hne => gb_blk g hb hne)
theorem MkS.kd {n0 B rch q : Nat} {vq vf : Array Value} {v1 vt : Value} {R : List (List Int)} {T : List (List (List Int))} {aw : Option Addr} {cw : Nat} {wl Dc : List Int} {w W : World} (h : MkS n0 B rch q vq vf v1 vt R T aw cw wl Dc w W) (a' b' c' d' : Value) : KT W ((((W.setCell ⟨B, 0, none⟩ a').setCell ⟨B, 1, none⟩ b').setCell ⟨B, 2, none⟩ c').setCell ⟨B, 3, none⟩ d') :=
  KT.oth h.dom (by decide) (by decide) (by decide) (by decide) (by simp [World.setCell]) (fun x _ hx => by
    rw [Below.heap_setCell _ _ _ _ hx, Below.heap_setCell _ _ _ _ hx, Below.heap_setCell _ _ _ _ hx, Below.heap_setCell _ _ _ _ hx])

theorem OwnF.monoZ {base base' : Nat} {w : World} {v : Value} {os : List OnZ} (h : OwnF base w v os) (e : base' ≤ base) : OwnF base' w v os := by
  obtain ⟨vals, h1, h2⟩ := h
  refine ⟨vals, ⟨h1.1, ?_⟩, h2⟩
  rcases h1.2 with hn | ⟨g, cap, cur, rfl, hb, rest⟩
  · exact .inl hn
  · exact .inr ⟨g, cap, cur, rfl, Nat.le_trans e hb, rest⟩
theorem results_ctS {P : Program} {fn : Func} {p u : Tmp} {ty : TypeId} (h : fn.results = #[.cell p ty, .tmp u]) (tmps : Array Value) (w : World) (g : Nat) (tt : TypeId) (cs : Array Value) (fr : Nat × Nat) (d : TypeDesc)
    (hp : tmps.getD p undef = .pointer (some ⟨g, 0, none⟩)) (hg : w.heap[g]? = some (.cells cs tt fr))
    (hu : P.underlying ty = some d) (hd : (match d with | .struct _ | .array _ _ => true | _ => false) = true) (hi : (P.info? ty).map (·.size) = some cs.size) :
    (results fn tmps).run P w = .ok (.tuple #[.agg cs, tmps.getD u undef]) w := by
  have hp' : tmps[p]?.getD undef = .pointer (some ⟨g, 0, none⟩) := by simpa using hp
  simp [results, h, hp', asAddr, run_loadVar_row w g tt ty cs fr d hg hu hd hi]

set_option maxRecDepth 100000 in
set_option maxHeartbeats 4000000 in
theorem rmake5_any (q n K J rch a n0 cw : Nat) (r s : Int) (aw : Option Addr) (word D : List Int) (w : World) (hpr : Num.Prime q) (h5 : 5 ≤ q) (h4 : q ≤ 2147483647) (hpn : Spo.PowIs q n) (hK : K ≤ 16) (hJ : J + 1 ≤ K) (ha1 : 1 ≤ a) (ha : a ≤ 64) (hr0 : 0 ≤ r) (hr1 : r < q) (hs0 : 0 ≤ s) (hs1 : s < q)
    (hD : Dig D) (hch : RCh q w rch D) (hn0 : n0 ≤ rch) (hw : word.length = 2 ^ K) (hf : Fits word) (hl : Lst n0 w aw cw word) :
    Calls Tryz.prog 12 #[.pointer (some ⟨rch, 0, none⟩), .agg #[.int .i64 q, .int .i64 ((2 ^ K : Nat) : Int), .int .i64 s, .int .i64 r], .int .i64 ((2 ^ J : Nat) : Int), .slice aw word.length cw, .int .i64 (a : Int)] w fun e w' =>
      ∃ b1 d1 b2 d2 b3 d3 av cv, e = .returned (.tuple #[.agg #[.slice b1 (J - 2) d1, .slice b2 (mkl q n K r s word D (J - 2)).length d2, .slice b3 (J - 2) d3], .slice av a cv]) ∧ OwnI w.heap.size w' (.slice b1 (J - 2) d1) (mkR q n K r s word D (J - 2)) ∧ NumL w' b2 d2 (mkl q n K r s word D (J - 2)) ∧ OwnF w.heap.size w' (.slice b3 (J - 2) d3) (mkO q n K r s word D (J - 2) a) ∧ NumL w' av cv (mkA q n K r s word D (J - 2) a) ∧
        RCh q w' rch (pld q n a (ckL q n (mkR q n K r s word D (J - 2)) (mkl q n K r s word D (J - 2)) D (J - 2))) ∧ w.grownBy w' (some rch) := by
  have h3 : 3 ≤ q := by omega
  have HPN := hid hpn
  have HPR := hid hpr
  have HWL : Hid (∀ i, i ≤ K → (mks q n K r s word D i).1.length = 2 ^ (K - i)) := mks_len hw
  have HWF : Hid (∀ i, Fits (mks q n K r s word D i).1) := mks_fits h3 h4 hf
  have HDG : Hid (∀ i, Dig (mks q n K r s word D i).2) := mks_dig h3 h4 hD
  have HSB : Hid (∀ i, 0 ≤ sqi q s i ∧ sqi q s i < q) := sqi_bounds h3 hs0 hs1
  have HRB : Hid (∀ i, 0 ≤ sqi q r i ∧ sqi q r i < q) := sqi_bounds h3 hr0 hr1
  have HTL : Hid (∀ i, i < K → (mkt q n K r s word D i).length = 2 ^ (K - i - 1)) := fun i hi => mkt_len hw hi
  have HTF : Hid (∀ i, FitsR (mkt q n K r s word D i)) := mkt_fits h3 h4
  have HRL : Hid (∀ i, i < K → (mkr q n K r s word D i).length = 4) := fun i hi => mkr_len hw hi
  have HRF : Hid (∀ i, Fits (mkr q n K r s word D i)) := mkr_fits h3 h4
  obtain ⟨m, hm⟩ : ∃ m, m = J - 2 := ⟨_, rfl⟩
  have HM := hid hm
  obtain ⟨NK, hNK⟩ : ∃ NK, NK = 2 ^ K := ⟨_, rfl⟩
  obtain ⟨NJ, hNJ⟩ : ∃ NJ, NJ = 2 ^ J := ⟨_, rfl⟩
  have HNK := hid hNK
  have HNJ := hid hNJ
  have hNK2 : NK ≤ 65536 := by rw [hNK]; exact two_pow_le hK
  have HKK : Hid (K ≤ 16 ∧ J + 1 ≤ K) := ⟨hK, hJ⟩
  rw [← hm, hw, ← hNK, ← hNJ]
  obtain ⟨W0, hW0⟩ : ∃ W0, W0 = (((w.alloc (.cells #[.int .i64 q, .int .i64 (NK : Int), .int .i64 s, .int .i64 r] 26)).alloc (.cells #[.slice none 0 0, .slice none 0 0, .slice none 0 0] 36)).alloc (.cells #[.slice none 0 0, .slice none 0 0, .slice none 0 0] 36)).alloc (.cells #[.int .i64 q, .int .i64 (NK : Int), .int .i64 s, .int .i64 r] 26) := ⟨_, rfl⟩
  have HS0 : Hid (MkS n0 w.heap.size rch q #[.int .i64 q, .int .i64 (NK : Int), .int .i64 s, .int .i64 r] #[.int .i64 q, .int .i64 (NK : Int), .int .i64 s, .int .i64 r] (.slice none 0 0) (.slice none 0 0) [] [] aw cw word D w W0) := by
    obtain ⟨V1, hV1⟩ : ∃ V1, V1 = w.alloc (.cells #[.int .i64 q, .int .i64 (NK : Int), .int .i64 s, .int .i64 r] 26) := ⟨_, rfl⟩
    obtain ⟨V2, hV2⟩ : ∃ V2, V2 = V1.alloc (.cells #[.slice none 0 0, .slice none 0 0, .slice none 0 0] 36) := ⟨_, rfl⟩
    obtain ⟨V3, hV3⟩ : ∃ V3, V3 = V2.alloc (.cells #[.slice none 0 0, .slice none 0 0, .slice none 0 0] 36) := ⟨_, rfl⟩
    rw [← hV1, ← hV2, ← hV3] at hW0
    have z1 : V1.heap.size = w.heap.size + 1 := by rw [hV1]; simp
    have z2 : V2.heap.size = w.heap.size + 2 := by rw [hV2]; simp [z1]
    have z3 : V3.heap.size = w.heap.size + 3 := by rw [hV3]; simp [z2]
    have b1 : Below w.heap.size w V1 := by rw [hV1]; exact (Below.refl _ _).alloc (Nat.le_refl _) _
    have b2 : Below V1.heap.size V1 V2 := by rw [hV2]; exact (Below.refl _ _).alloc (Nat.le_refl _) _
    have b3 : Below V2.heap.size V2 V3 := by rw [hV3]; exact (Below.refl _ _).alloc (Nat.le_refl _) _
    have b4 : Below V3.heap.size V3 W0 := by rw [hW0]; exact (Below.refl _ _).alloc (Nat.le_refl _) _
    have g1 : V1.heap[w.heap.size]? = some (.cells #[.int .i64 q, .int .i64 (NK : Int), .int .i64 s, .int .i64 r] 26 (0, 0)) := by rw [hV1]; exact heap_alloc_new w _
    have g2 : V2.heap[w.heap.size + 1]? = some (.cells #[.slice none 0 0, .slice none 0 0, .slice none 0 0] 36 (0, 0)) := by rw [← z1, hV2]; exact heap_alloc_new V1 _
    have g3 : V3.heap[w.heap.size + 2]? = some (.cells #[.slice none 0 0, .slice none 0 0, .slice none 0 0] 36 (0, 0)) := by rw [← z2, hV3]; exact heap_alloc_new V2 _
    have g4 : W0.heap[w.heap.size + 3]? = some (.cells #[.int .i64 q, .int .i64 (NK : Int), .int .i64 s, .int .i64 r] 26 (0, 0)) := by rw [← z3, hW0]; exact heap_alloc_new V3 _
    have bb : Below w.heap.size w W0 := ((b1.trans (b2.mono (by omega))).trans (b3.mono (by omega))).trans (b4.mono (by omega))
    have hlt := hch.lt
    exact ⟨gb_below bb, (b4.block _ (by omega)).trans ((b3.block _ (by omega)).trans ((b2.block _ (by omega)).trans g1)), (b4.block _ (by omega)).trans ((b3.block _ (by omega)).trans g2), (b4.block _ (by omega)).trans g3, g4, hch.below bb, OwnI.nil _ _, OwnT.nil _ _, Or.inl (hl.below (bb.mono (by omega))), rfl, hlt, hn0⟩
  clear hpn hpr hw hf hl hD hch hm hNK hNJ hK hJ
  go_enter Tryz.func12, Tryz.ntmps12
  go_wp2_with fail
  rw [← hW0]
  clear hW0
  rw [show w.heap.size + 1 + 1 + 1 = w.heap.size + 3 from rfl, show w.heap.size + 1 + 1 = w.heap.size + 2 from rfl]
  obtain ⟨B, hB⟩ : ∃ B, B = w.heap.size := ⟨_, rfl⟩
  have HBE : Hid (w.heap.size = B) := hB.symm
  rw [← hB] at HS0
  simp only [HBE.out]
  clear hB
  go_loopw [2, 3, 13] (fun kv wv tv wr => ∃ (i kk nn f1 ft cw' : Nat) (e1 et aw' : Option Addr), i ≤ m ∧ kk ≤ 65536 ∧ nn ≤ 65536 ∧ kv = .int .i64 (kk : Int) ∧ wv = .slice aw' nn cw' ∧ tv = .slice et i ft ∧ Hid (kk = 2 ^ (J - i) ∧ nn = 2 ^ (K - i) ∧ (i = 0 → e1 = none) ∧ MkS n0 B rch q #[.int .i64 q, .int .i64 (nn : Int), .int .i64 (sqi q s i), .int .i64 (sqi q r i)] #[.int .i64 q, .int .i64 (NK : Int), .int .i64 s, .int .i64 r] (.slice e1 i f1) (.slice et i ft) (mkR q n K r s word D i) (mkT q n K r s word D i) aw' cw' (mks q n K r s word D i).1 (mks q n K r s word D i).2 w wr))
    (fun kv _ _ _ => (intOf kv).toNat)
  case atStart => exact ⟨0, NJ, NK, 0, 0, cw, none, none, aw, Nat.zero_le _, by rw [HNJ.out]; exact two_pow_le (by have := HKK.out; omega), hNK2, rfl, rfl, rfl, HNJ.out, HNK.out, fun _ => rfl, HS0.out⟩
  case round =>
    obtain ⟨i, kk, nn, f1, ft, cw', e1, et, aw', hi, hkk, hnn, rfl, rfl, rfl, hI⟩ := hrel
    by_cases hlt : i < m
    · obtain ⟨hkk2, hnn2, he1, hS⟩ := hI.out
      have hKK := HKK.out
      have hmJ := HM.out
      obtain ⟨H, hH⟩ : ∃ H, H = 2 ^ (K - i - 1) := ⟨_, rfl⟩
      obtain ⟨k2, hk2⟩ : ∃ k2, k2 = 2 ^ (J - i - 1) := ⟨_, rfl⟩
      have hnH : nn = 2 * H := by rw [hnn2, hH, show K - i = (K - i - 1) + 1 from by omega, Nat.pow_succ, Nat.add_sub_cancel]; omega
      have hkk3 : kk = 2 * k2 := by rw [hkk2, hk2, show J - i = (J - i - 1) + 1 from by omega, Nat.pow_succ, Nat.add_sub_cancel]; omega
      have hk4 : 2 ^ 2 ≤ k2 := by rw [hk2]; exact Nat.pow_le_pow_right (by omega) (by omega)
      have hH1 : 0 < H := by rw [hH]; exact Nat.pow_pos (by decide)
      have hH2 : H ≤ 65536 := by omega
      have hlt2 : (4 : Int) < (kk : Int) := by omega
      have hdv : (kk : Int).tdiv 2 = (k2 : Int) := by rw [Int.tdiv_eq_ediv_of_nonneg (by omega)]; omega
      have hdv2 : (kk : Int) / 2 = (k2 : Int) := by omega
      have hwr : IntKind.i64.wrap (k2 : Int) = (k2 : Int) := by rw [IntKind.wrap_i64]; omega
      have HK2 : Hid (k2 = 2 ^ (J - (i + 1))) := by unfold Hid; rw [hk2, Nat.sub_sub]
      have HH2 : Hid (H = 2 ^ (K - (i + 1))) := by unfold Hid; rw [hH, Nat.sub_sub]
      obtain ⟨Wd, hWd⟩ : ∃ Wd, Wd = (mks q n K r s word D i).1 := ⟨_, rfl⟩
      obtain ⟨Di, hDi⟩ : ∃ Di, Di = (mks q n K r s word D i).2 := ⟨_, rfl⟩
      obtain ⟨rows, hrows⟩ : ∃ rows, rows = mkt q n K r s word D i := ⟨_, rfl⟩
      obtain ⟨root, hroot⟩ : ∃ root, root = mkr q n K r s word D i := ⟨_, rfl⟩
      have hrP : prs5 q Wd = rows := by rw [hrows, mkt, hWd]
      have hrt : rtf q n rows.length rows = root := by rw [hroot, mkr, hrows]
      have hWl : Wd.length = nn := by rw [hWd, HWL.out i (by omega), hnn2]
      have hrl : rows.length = H := by rw [hrows, HTL.out i (by omega), hH]
      have hrtl : root.length = 4 := by rw [hroot, HRL.out i (by omega)]
      have HWf : Hid (Fits Wd) := by unfold Hid; rw [hWd]; exact HWF.out i
      have HDi : Hid (Dig Di) := by unfold Hid; rw [hDi]; exact HDG.out i
      have HRw : Hid (FitsR rows) := by unfold Hid; rw [hrows]; exact HTF.out i
      have HRt : Hid (Fits root) := by unfold Hid; rw [hroot]; exact HRF.out i
      have HNX : Hid (mks q n K r s word D (i + 1) = (Fol.foldz q H (sqi q r i) (sqi q s i) Wd (zat (digl q n (4 :: digl q n (3 :: (Di ++ root)))) 0), digl q n (4 :: digl q n (3 :: (Di ++ root))))) := by
        unfold Hid
        rw [mks, ← hWd, ← hDi, ← hH, hrP, hrt]
      have HMR : Hid (mkR q n K r s word D (i + 1) = mkR q n K r s word D i ++ [root]) := by unfold Hid; rw [mkR_succ, hroot]
      have HMT : Hid (mkT q n K r s word D (i + 1) = mkT q n K r s word D i ++ [rows]) := by unfold Hid; rw [mkT_succ, hrows]
      have HW4 : Hid (∀ j, j < (mkR q n K r s word D i).length → (rat (mkR q n K r s word D i) j).length = 4) := fun j hj => by
        rw [mkR_len] at hj
        rw [mkR_rat hj]
        exact HRL.out j (by omega)
      have HW2 : Hid (∀ j, j < (mkT q n K r s word D (i + 1)).length → 0 < (tat (mkT q n K r s word D (i + 1)) j).length ∧ (rat (tat (mkT q n K r s word D (i + 1)) j) 0).length = 2) := fun j hj => by
        rw [mkT_len] at hj
        rw [mkT_tat hj]
        have h7 := HTL.out j (by omega)
        have h8 : 0 < 2 ^ (K - j - 1) := Nat.pow_pos (by decide)
        refine ⟨by omega, ?_⟩
        have h9 := h7
        rw [mkt, prs5_len] at h9
        rw [mkt, prs5_rat (by omega)]
        rfl
      have HRE : Hid ((mkR q n K r s word D i).length = i) := mkR_len _ _ _ _ _ _ _ _
      have HTE : Hid ((mkT q n K r s word D i).length = i) := mkT_len _ _ _ _ _ _ _ _
      have HSQ : Hid (sqi q s (i + 1) = sqi q s i * sqi q s i % (q : Int) ∧ sqi q r (i + 1) = sqi q r i * sqi q r i % (q : Int)) := ⟨rfl, rfl⟩
      have HE1 := hid he1
      rw [← hWd, ← hDi] at hS
      obtain ⟨sb0, sb1⟩ := HSB.out i
      obtain ⟨rb0, rb1⟩ := HRB.out i
      generalize sqi q s i = si at *
      generalize sqi q r i = ri at *
      have HS := hid hS
      have HPA := hid (rpairs5_I q cw' aw' Wd wr h3 h4 (by omega) HWf.out (hS.wd.row (by have := hS.size; have := hS.hr; have := hS.hn; omega)))
      rw [hWl, hrP] at HPA
      have d0 := four0 hS.dom
      have hi16 : i ≤ 16 := by omega
      have HNH := hid hnH
      have HK3 := hid hkk3
      clear hI hS hH hk2 hkk2 hnn2 he1 hWd hDi hrows hroot hrP hKK hmJ hnH hkk3
      go_wp2_with fail
      refine HPA.out.mono ?_
      rintro e w1 ⟨v, rfl, ho1, hb1⟩
      obtain ⟨a1, c1, hv, hl1⟩ := ho1.lst
      rw [hrl] at hv
      subst hv
      have HS1 := hid (HS.out.step hb1)
      have HRO := hid (rroot_any2 q n h5 h4 HPN.out rows.length c1 a1 rows w1 (by omega) (Nat.le_refl _) (by omega) HRw.out hl1)
      rw [hrt, hrl] at HRO
      have HO1 := hid (ho1.mono (Nat.zero_le _))
      clear d0 ho1 hl1 hb1 HPA HS hrt
      have d0 := four0 HS1.out.dom
      go_wp2_with fail
      refine HRO.out.mono ?_
      rintro e w2 ⟨g, Ng, rfl, hg, hld, hb2⟩
      have HS2 := hid (HS1.out.step hb2)
      have HN2 := hid hld.num
      have HO2 := hid (HO1.out.ki (KI.below hb2))
      have HST := hid (rstep_any q n rch Ng 3 (some ⟨g, 0, none⟩) root Di w2 h5 h4 HPN.out (by omega) (by rw [HDi.out.1]; omega) HDi.out.2 HRt.out HS2.out.rc hld.num.1)
      rw [hrtl] at HST
      clear d0 hg hld hb2 HRO HS1 HO1
      go_wp2_with fail
      refine HST.out.mono ?_
      rintro e w3 ⟨rfl, hR3, hg3⟩
      have k3 := HS2.out.kc hg3
      have HS3 := hid (HS2.out.chain hg3 hR3)
      have HN3 := hid (HN2.out.ki k3.1.1)
      have HO3 := hid (HO2.out.ki k3.1.1)
      have HDR := hid (rdraw_any q n rch (digl q n (3 :: (Di ++ root))) w3 h5 h4 HPN.out (by rw [digl_len]; omega) (digl_fits h3 h4 _ _) HS3.out.rc)
      clear k3 hR3 hg3 HST HS2 HN2 HO2
      go_wp2_with fail
      refine HDR.out.mono ?_
      rintro e w4 ⟨rfl, hR4, hg4⟩
      have k4 := HS3.out.kc hg4
      have HS4 := hid (HS3.out.chain hg4 hR4)
      have HN4 := hid (HN3.out.ki k4.1.1)
      have HO4 := hid (HO3.out.ki k4.1.1)
      obtain ⟨dr1, dr2⟩ := (digl_fits h3 h4 n (4 :: digl q n (3 :: (Di ++ root)))).all 0
      clear k4 hR4 hg4 HDR HS3 HN3 HO3
      generalize zat (digl q n (4 :: digl q n (3 :: (Di ++ root)))) 0 = dr at *
      have HFO := hid (rfold_any q H cw' aw' ri si dr Wd w4 w4.heap.size h3 h4 hH2 rb0 rb1 sb0 sb1 (by rw [hWl, HNH.out]) HWf.out dr1 dr2 (Nat.le_refl _) (HS4.out.wd.row (by have := HS4.out.size; have := HS4.out.hr; have := HS4.out.hn; omega)))
      rw [hWl, ← HNH.out] at HFO
      have d0 := four0 HS4.out.dom
      have d1 := four1 HS4.out.dom
      have d2 := four2 HS4.out.dom
      have d3 := four3 HS4.out.dom
      go_wp2_with fail
      refine HFO.out.mono ?_
      rintro e w5 ⟨v5, rfl, ho5, hb5⟩
      obtain ⟨a5, c5, hv5, hn5⟩ := numL_of_owns ho5
      rw [Fol.foldz_len] at hv5
      subst hv5
      have HS5 := hid ((HS4.out.step hb5).word hn5)
      have HN5 := hid (HN4.out.ki (KI.below hb5))
      have HO5 := hid (HO4.out.ki (KI.below hb5))
      have HHA := hid (rhalf_any q H ri si w5 h3 h4 hH2 rb0 rb1 sb0 sb1)
      rw [← HNH.out] at HHA
      clear ho5 hb5 hn5 HFO HS4 HN4 HO4 d0 d1 d2 d3
      have d0 := four0 HS5.out.dom
      have d1 := four1 HS5.out.dom
      have d2 := four2 HS5.out.dom
      have d3 := four3 HS5.out.dom
      generalize si * si % (q : Int) = ss at *
      generalize ri * ri % (q : Int) = rr at *
      go_wp2_with fail
      refine HHA.out.mono ?_
      rintro e w6 ⟨rfl, hb6⟩
      have HS6 := hid (HS5.out.step hb6)
      have c0' := four0 HS6.out.dom
      have c1' := four1 HS6.out.dom
      have c2' := four2 HS6.out.dom
      have c3' := four3 HS6.out.dom
      have y0 := fourF HS6.out.dom 0
      have y1 := fourF HS6.out.dom 1
      have y2 := fourF HS6.out.dom 2
      have y3 := fourF HS6.out.dom 3
      have HS7 := hid (HS6.out.dput (.int .i64 q) (.int .i64 (H : Int)) (.int .i64 ss) (.int .i64 rr))
      have k7 := (HS6.out.kd (.int .i64 q) (.int .i64 (H : Int)) (.int .i64 ss) (.int .i64 rr)).1.1
      have HN7 := hid ((HN5.out.ki (KI.below hb6)).ki k7)
      have HO7 := hid ((HO5.out.ki (KI.below hb6)).ki k7)
      clear hb6 HHA HS5 HN5 HO5 d0 d1 d2 d3 k7 HS6
      go_wp2_with (at_builtin; refine wpList_tree1 ((((w6.setCell ⟨B, 0, none⟩ (.int .i64 q)).setCell ⟨B, 1, none⟩ (.int .i64 (H : Int))).setCell ⟨B, 2, none⟩ (.int .i64 ss)).setCell ⟨B, 3, none⟩ (.int .i64 rr)) B rfl _ _ rfl _ _ (mkT q n K r s word D i) rows HS7.out.trs HO7.out rfl (by rw [show ((((w6.setCell ⟨B, 0, none⟩ (.int .i64 q)).setCell ⟨B, 1, none⟩ (.int .i64 (H : Int))).setCell ⟨B, 2, none⟩ (.int .i64 ss)).setCell ⟨B, 3, none⟩ (.int .i64 rr)).heap.size = w6.heap.size from by simp [World.setCell]]; rfl) (by rw [HTE.out]; omega) (Nat.le_trans (Nat.le_add_right B 4) HS7.out.size) ?_)
      intro v8 w8 ho8 hb8 hz8 hn8
      obtain ⟨W7, hW7⟩ : ∃ W7, W7 = (((w6.setCell ⟨B, 0, none⟩ (.int .i64 q)).setCell ⟨B, 1, none⟩ (.int .i64 (H : Int))).setCell ⟨B, 2, none⟩ (.int .i64 ss)).setCell ⟨B, 3, none⟩ (.int .i64 rr) := ⟨_, rfl⟩
      rw [← hW7] at HS7 HN7 HO7 hb8
      have hn8' : ∀ (b : Nat) (c : Array Value) (t : TypeId) (f : Nat × Nat), W7.heap[b]? = some (.cells c t f) → t ≠ 33 → w8.heap[b]? = W7.heap[b]? := by rw [hW7]; exact fun b c t f h1 h2 => hn8 b c t f.1 f.2 h1 h2
      obtain ⟨et', ft', hv8⟩ := ho8.form
      rw [show (mkT q n K r s word D i ++ [rows]).length = i + 1 from by rw [List.length_append, HTE.out]; rfl] at hv8
      subst hv8
      have HS8 := hid (HS7.out.tree ho8 hb8 hn8')
      rw [← HMT.out] at HS8
      have HN8 := hid (HN7.out.ki ⟨hb8.size, fun b cs t f hg ht => hn8' b cs t f hg (by rcases ht with rfl | rfl <;> decide)⟩)
      have o0 := thr0 HS8.out.out
      have HSL : Hid (SlI w8 root (.slice (some ⟨g, 0, none⟩) 4 Ng)) := ⟨_, _, by rw [hrtl], HN8.out⟩
      have HZ8 : Hid (B ≤ w8.heap.size) := Nat.le_trans (Nat.le_add_right B 4) HS8.out.size
      clear hn8 hn8' ho8 hb8 hz8 hW7 HS7 HN7 HO7 HN8 c0' c1' c2' c3' y0 y1 y2 y3
      go_wp2_with (at_builtin; refine wpList_rowS w8 B rfl _ _ rfl _ _ (mkR q n K r s word D i) root HS8.out.rts HSL.out rfl rfl (by rw [HRE.out]; omega) HZ8.out ?_)
      intro v9 w9 ho9 hb9 hz9 he9
      obtain ⟨e9, f9, hv9, _⟩ := ho9.lst
      rw [show (mkR q n K r s word D i ++ [root]).length = i + 1 from by rw [List.length_append, HRE.out]; rfl] at hv9
      subst hv9
      have hou := HS8.out.outK he9
      have HS9 := hid (HS8.out.root ho9 hb9 he9 (fun hh => by
        have h0 : i = 0 := by rw [← HRE.out, hh]; rfl
        rw [HE1.out h0]; rfl) HW4.out HW2.out)
      have k0 := thr0 hou
      have y0 := thrF hou 0
      rw [← HMR.out] at HS9
      clear ho9 hb9 hz9 he9 hou HS8 HSL o0
      go_wp2_with fail
      go_roundw
      case rel => exact ⟨i + 1, k2, H, f9, ft', c5, e9, et', a5, by omega, by omega, by omega, by go_num, rfl, rfl, HK2.out, HH2.out, fun hh => by omega, by rw [HSQ.out.1, HSQ.out.2, HNX.out]; exact HS9.out⟩
      case measure => have := HK3.out; simp [intOf]; omega
    · obtain ⟨hkk2, hnn2, he1, hS⟩ := hI.out
      have hKK := HKK.out
      have hmJ := HM.out
      obtain rfl : i = m := by omega
      have hi16 : i ≤ 16 := by omega
      have hiK : i + 1 ≤ K := by omega
      have hk4 : ¬ (4 : Int) < (kk : Int) := by
        have h7 : kk ≤ 2 ^ 2 := by rw [hkk2]; exact Nat.pow_le_pow_right (by omega) (by omega)
        omega
      obtain ⟨Wd, hWd⟩ : ∃ Wd, Wd = (mks q n K r s word D i).1 := ⟨_, rfl⟩
      obtain ⟨Di, hDi⟩ : ∃ Di, Di = (mks q n K r s word D i).2 := ⟨_, rfl⟩
      obtain ⟨L, hL⟩ : ∃ L, L = mkl q n K r s word D i := ⟨_, rfl⟩
      have hWl : Wd.length = nn := by rw [hWd, HWL.out i (by omega), hnn2]
      have hnn0 : 0 < nn := by rw [hnn2]; exact Nat.pow_pos (by decide)
      have HWf : Hid (Fits Wd) := by unfold Hid; rw [hWd]; exact HWF.out i
      have HDi : Hid (Dig Di) := by unfold Hid; rw [hDi]; exact HDG.out i
      have hLl : L.length ≤ 65536 := by
        have h7 := bk_len q nn (sqi q r i) (sqi q s i) Wd
        have h8 : L = bk q nn (sqi q r i) (sqi q s i) Wd := by rw [hL, mkl, hWd, hnn2]
        rw [h8]
        omega
      have HLF : Hid (Fits L) := by unfold Hid; rw [hL]; exact trim_fits h3 h4 _
      rw [← hWd, ← hDi] at hS
      obtain ⟨sb0, sb1⟩ := HSB.out i
      obtain ⟨rb0, rb1⟩ := HRB.out i
      have HCO := hid (rcoef_num q nn cw' (sqi q r i) (sqi q s i) aw' Wd wr HPR.out h3 h4 hnn0 hnn rb0 rb1 sb0 sb1 hWl HWf.out (hS.wd.row (by have := hS.size; have := hS.hr; have := hS.hn; omega)))
      rw [show bk q nn (sqi q r i) (sqi q s i) Wd = L from by rw [hL, mkl, hWd, hnn2]] at HCO
      have d0 := four0 hS.dom
      have d1 := four1 hS.dom
      have d2 := four2 hS.dom
      have d3 := four3 hS.dom
      have HS := hid hS
      have HCK : Hid (digl q n (3 :: (Di ++ L)) = ckL q n (mkR q n K r s word D i) L D i) := by unfold Hid ckL; rw [mks_ckD i (Nat.le_refl _), hDi]
      have HLE := hid hL
      generalize sqi q s i = si at *
      generalize sqi q r i = ri at *
      clear hI hS hWd hDi hL hkk2 hnn2 he1 hWl hmJ
      go_wp2_with fail
      refine HCO.out.mono ?_
      rintro e w1 ⟨aL, cL, rfl, hnl, hb1⟩
      have HS1 := hid (HS.out.step hb1)
      clear d0 d1 d2 d3
      have d1 := thr1 HS1.out.out
      have y1 := thrF HS1.out.out 1
      have HU1 := hid (HS1.out.last ⟨_, _, rfl, hnl⟩)
      have x1 := thr1 HU1.out.out
      obtain ⟨W1, hW1⟩ : ∃ W1, W1 = w1.setCell ⟨B + 2, 1, none⟩ (.slice aL L.length cL) := ⟨_, rfl⟩
      rw [← hW1] at HU1 x1
      have HST : Hid (Calls Tryz.prog 45 #[.pointer (some ⟨rch, 0, none⟩), .int .i64 3, .slice aL L.length cL] W1 fun e w' => e = .returned (.tuple #[]) ∧ RCh q w' rch (digl q n (3 :: (Di ++ L))) ∧ W1.grownBy w' (some rch)) := by
        obtain ⟨ax, cx, hx, hnx⟩ := HU1.out.lst
        injection hx with e5 _ e6
        subst e5 e6
        exact rstep_any q n rch _ 3 _ L Di W1 h5 h4 HPN.out (by omega) (by rw [HDi.out.1]; omega) HDi.out.2 HLF.out HU1.out.rc hnx.1
      clear hnl hb1 HCO HS HS1
      go_wp2_with fail
      rw [← hW1]
      clear hW1
      go_wp2_with fail
      refine HST.out.mono ?_
      rintro e w3 ⟨rfl, hR3, hg3⟩
      rw [HCK.out] at hR3
      obtain ⟨D3, hD3⟩ : ∃ D3, D3 = ckL q n (mkR q n K r s word D i) L D i := ⟨_, rfl⟩
      rw [← hD3] at hR3
      have HD3 := hid hD3
      have HD4 : Hid (D3.length = 4 ∧ Fits D3) := by unfold Hid; rw [hD3]; unfold ckL; exact ⟨digl_len _ _ _, digl_fits h3 h4 _ _⟩
      have HU3 := hid (HU1.out.chain hg3 hR3)
      clear hR3 hg3 HST HU1 x1 hD3 HCK d1 y1
      have d0 := four0 HU3.out.fst
      have d1 := four1 HU3.out.fst
      have d2 := four2 HU3.out.fst
      have d3 := four3 HU3.out.fst
      have hNK0 : 2 ≤ NK := by
        have h7 : 2 ^ 1 ≤ NK := by rw [HNK.out]; exact Nat.pow_le_pow_right (by omega) (by omega)
        omega
      have HPL := hid (rplaces_any q n rch NK a s r D3 w3 h5 h4 HPN.out (by rw [HD4.out.1]; omega) HD4.out.2 HU3.out.rc hNK0 hNK2 (by omega))
      obtain ⟨A, hA⟩ : ∃ A, A = ls (plz q n (NK / 2) D3) a := ⟨_, rfl⟩
      have hAl : A.length = a := by rw [hA, ls_len]
      have HAE : Hid (A = mkA q n K r s word D i a) := by unfold Hid mkA ckA; rw [hA, HNK.out, HD3.out, HLE.out]
      have hN2p : 1 ≤ NK / 2 := by omega
      have HAZ : Hid (∀ j, j < A.length → 0 ≤ zat A j ∧ zat A j ≤ 9223372036854775807) := fun j hj => by
        rw [hAl] at hj
        rw [hA, ls_at _ _ _ hj]
        unfold plz
        have h7 := Int.emod_nonneg (zat (pld q n (j + 1) D3) 0 * q + zat (pld q n (j + 1) D3) 1) (show ((NK / 2 : Nat) : Int) ≠ 0 by omega)
        have h8 := Int.emod_lt_of_pos (zat (pld q n (j + 1) D3) 0 * q + zat (pld q n (j + 1) D3) 1) (show (0 : Int) < ((NK / 2 : Nat) : Int) by omega)
        omega
      rw [← hA, hAl] at HPL
      have HAL := hid hAl
      clear hA hAl hN2p
      go_wp2_with fail
      refine HPL.out.mono ?_
      rintro e w4 ⟨v4, rfl, hR4, ho4, hg4⟩
      have ho5 : w4.ownsRow w3.heap.size 3 1 v4 A.length (A.map (Value.int .i64)) := by rw [HAL.out]; exact ho4
      obtain ⟨aA, cA, hv4, hn4⟩ := numL_of_owns ho5
      have HU4 := hid ((HU3.out.chain hg4 hR4).places ⟨_, _, hv4, hn4⟩)
      rw [HAL.out] at hv4
      subst hv4
      clear hR4 ho4 ho5 hg4 HPL HU3 hn4 d0 d1 d2 d3
      go_wp2_with fail
      go_loopw [19] (fun iv wr => ∃ (j : Nat) (v3 : Value), j ≤ i ∧ iv = .int .i64 (j : Int) ∧ Hid (MkU B rch q #[.int .i64 q, .int .i64 (nn : Int), .int .i64 si, .int .i64 ri] #[.int .i64 q, .int .i64 (NK : Int), .int .i64 s, .int .i64 r] (.slice e1 i f1) (.slice aL L.length cL) v3 (.slice et i ft) (.slice aA a cA) (mkR q n K r s word D i) L (mkOi q n K r s word D i a j) (mkT q n K r s word D i) A (pld q n a D3) w wr)) (fun iv _ => i - (intOf iv).toNat)
      case atStart => exact ⟨0, .slice none 0 0, Nat.zero_le _, rfl, HU4.out⟩
      case round =>
        obtain ⟨j, v3, hj, rfl, hU⟩ := hrel
        by_cases hji : j < i
        · have hji2 : (j : Int) < (i : Int) := by omega
          have hjs : IntKind.i64.wrap ((j : Int) + 1) = (j : Int) + 1 := by rw [IntKind.wrap_i64]; omega
          have hUo := hU.out
          obtain ⟨gt, ctt, ar, cr, hvt, hct, hlr⟩ := hUo.trs.at (j := j) (by rw [mkT_len]; exact hji)
          have hvt1 : et = some ⟨gt, 0, none⟩ := by injection hvt
          clear hvt
          subst hvt1
          rw [mkT_tat hji] at hct hlr
          obtain ⟨rows, hrows⟩ : ∃ rows, rows = mkt q n K r s word D j := ⟨_, rfl⟩
          obtain ⟨Hj, hHj⟩ : ∃ Hj, Hj = 2 ^ (K - j - 1) := ⟨_, rfl⟩
          have hHp : 1 ≤ Hj := by rw [hHj]; exact Nat.two_pow_pos _
          have hHm : Hj ≤ 65536 := by rw [hHj]; exact two_pow_le (by have := HKK.out; omega)
          rw [← hrows] at hct hlr
          have hrl : rows.length = Hj := by rw [hrows, HTL.out j (by omega), hHj]
          rw [hrl] at hct
          have hfr : FitsR rows := by rw [hrows]; exact HTF.out j
          obtain ⟨ps, hps⟩ : ∃ ps, ps = mdz A Hj := ⟨_, rfl⟩
          have HMO : Hid (Calls Tryz.prog 50 #[.slice aA a cA, .int .i64 (Hj : Int)] wr fun e w' => ∃ v, e = .returned v ∧ w'.ownsRow wr.heap.size 3 1 v ps.length (ps.map (Value.int .i64)) ∧ Below wr.heap.size wr w') := by
            obtain ⟨ax, cx, hx, hnx⟩ := hUo.pls
            injection hx with e5 _ e6
            subst e5 e6
            have := rmodulo_any cA Hj aA A wr (by omega) hHm (by rw [HAL.out]; omega) HAZ.out hnx.1.row
            rw [HAL.out] at this
            rw [hps]
            exact this
          have hpsl : ps.length ≤ 64 := by
            have := mdz_len A Hj
            rw [HAL.out] at this
            rw [hps]
            omega
          have HJE := hid (⟨hrows, hHj, hps, hrl⟩ : rows = mkt q n K r s word D j ∧ Hj = 2 ^ (K - j - 1) ∧ ps = mdz A Hj ∧ rows.length = Hj)
          have HFR := hid hfr
          have HPL := hid hpsl
          clear hUo hlr hrows hHj hps hrl hfr hpsl
          go_wp2_with fail
          refine HMO.out.mono ?_
          rintro e w5 ⟨v5, rfl, ho5, hb5⟩
          obtain ⟨a5, c5, hv5, hn5⟩ := numL_of_owns ho5
          subst hv5
          have HU5 := hid (hU.out.step hb5)
          have hct5 := (hb5.cell (p := ⟨gt, j, none⟩) (World.block_lt_of_cell? _ _ hct)).trans hct
          have HN5 := hid hn5
          have HOP : Hid (∀ W, Below w5.heap.size w5 W → Calls Tryz.prog 51 #[.int .i64 q, .slice ar Hj cr, .slice a5 ps.length c5] W fun e w' => ∃ ap' n1 cp' ar' n2 cr' an' n3 cn', e = .returned (.agg #[.slice ap' n1 cp', .slice ar' n2 cr', .slice an' n3 cn']) ∧ SlR w' (mko q n K r s word D i a j).ps (.slice ap' n1 cp') ∧ OwnR 0 w' (.slice ar' n2 cr') (mko q n K r s word D i a j).rows ∧ OwnR 0 w' (.slice an' n3 cn') (mko q n K r s word D i a j).nodes ∧ Below W.heap.size W w') := fun W hW => by
            have hE := HJE.out
            obtain ⟨gt', ctt', ar', cr', hvt', hct', hlr'⟩ := (HU5.out.step hW).trs.at (j := j) (by rw [mkT_len]; exact hji)
            injection hvt' with hvt1 _ _
            injection hvt1 with hvt1
            injection hvt1 with hvt1 _ _
            subst hvt1
            rw [mkT_tat hji, ← hE.1] at hct' hlr'
            have hcc := (hW.cell (p := ⟨gt, j, none⟩) (World.block_lt_of_cell? _ _ hct5)).trans hct5
            rw [hct', hE.2.2.2] at hcc
            injection hcc with hcc
            injection hcc with hc1 _ hc3
            subst hc1 hc3
            have hin : ∀ x, x ∈ ps → 0 ≤ x ∧ x < (rows.length : Int) := fun x hx => by
              rw [hE.2.2.1] at hx
              rw [hE.2.2.2]
              exact mdz_in (by omega) x hx
            have := ropen_any q n cr' c5 ar' a5 rows ps W h5 h4 HPN.out (by omega) (by omega) HFR.out hlr'.lst (by have := HPL.out; omega) ((HN5.out.ki (KI.below hW)).1.row) hin
            rw [hE.2.2.2] at this
            refine this.mono ?_
            rintro e w' ⟨os, vp, vr, vn, rfl, hos, hs1, hs2, hs3, hb'⟩
            have hosE : os = ps := by
              rw [hE.2.2.1] at hos ⊢
              exact once_mdz hos
            subst hosE
            have hz1 : (mko q n K r s word D i a j).ps = os := by
              rw [hE.2.2.1, HAE.out, hE.2.1]
              rfl
            have hz2 : (mko q n K r s word D i a j).rows = shw q rows os := by
              have h7 : (mko q n K r s word D i a j).rows = shw q (mkt q n K r s word D j) (mko q n K r s word D i a j).ps := rfl
              rw [h7, hz1, hE.1]
            have hz3 : (mko q n K r s word D i a j).nodes = ndf q n Hj rows os 0 := by
              have h7 : (mko q n K r s word D i a j).nodes = ndf q n (mkt q n K r s word D j).length (mkt q n K r s word D j) (mko q n K r s word D i a j).ps 0 := rfl
              rw [h7, hz1, ← hE.1, hE.2.2.2]
            rw [← hz1] at hs1
            rw [← hz2] at hs2
            rw [← hz3] at hs3
            obtain ⟨x1, x2, x3, _⟩ := hs1.lst
            obtain ⟨y1, y2, y3, _⟩ := hs2.lst
            obtain ⟨z1, z2, z3, _⟩ := hs3.lst
            subst x3 y3 z3
            exact ⟨x1, _, x2, y1, _, y2, z1, _, z2, rfl, hs1, hs2.mono (Nat.zero_le _), hs3.mono (Nat.zero_le _), hb'⟩
          have d0 := four0 HU5.out.dom
          have HKP : Hid (∀ W, Below w5.heap.size w5 W → W.cell? ⟨B, 0, none⟩ = some (.int .i64 q) ∧ W.cell? ⟨gt, j, none⟩ = some (.slice ar Hj cr)) := fun W hW => ⟨(hW.cell (p := ⟨B, 0, none⟩) (World.block_lt_of_cell? _ _ d0)).trans d0, (hW.cell (p := ⟨gt, j, none⟩) (World.block_lt_of_cell? _ _ hct5)).trans hct5⟩
          have hdd : Below w5.heap.size w5 w5.drew := (Below.refl _ _).drew
          clear ho5 hb5 hn5 HMO hct
          go_wp2_with fail
          refine wp_region_held_drew (S := (fun W => W.cell? ⟨B, 0, none⟩ = some (.int .i64 q) ∧ W.cell? ⟨gt, j, none⟩ = some (.slice ar Hj cr))) (by kernel_rfl) (HKP.out _ hdd) (fun hHeld => ?_)
          refine wpAnyH_takeL (i := 0) (v := .pointer (some ⟨B, 0, none⟩)) rfl (by kernel_rfl) (by kernel_rfl) (by kernel_rfl) (fun _ _ _ h => h) (by rfl) (fun W hC => by (obtain ⟨k0, k1⟩ := hC); go_simp) hHeld ?_
          simp only [Act.put, List.setIfInBounds_toArray, List.set_cons_zero, List.set_cons_succ]
          refine wpAnyH_takeL (i := 1) (v := .int .i64 q) rfl (by kernel_rfl) (by kernel_rfl) (by kernel_rfl) (fun _ _ _ h => h) (by rfl) (fun W hC => by (obtain ⟨k0, k1⟩ := hC); go_simp) hHeld ?_
          simp only [Act.put, List.setIfInBounds_toArray, List.set_cons_zero, List.set_cons_succ]
          refine wpAnyH_takeL (i := 2) (v := .slice (some ⟨gt, 0, none⟩) i ft) rfl (by kernel_rfl) (by kernel_rfl) (by kernel_rfl) (fun _ _ _ h => h) (by rfl) (fun W hC => by (obtain ⟨k0, k1⟩ := hC); go_simp) hHeld ?_
          simp only [Act.put, List.setIfInBounds_toArray, List.set_cons_zero, List.set_cons_succ]
          refine wpAnyH_takeL (i := 3) (v := .int .i64 (j : Int)) rfl (by kernel_rfl) (by kernel_rfl) (by kernel_rfl) (fun _ _ _ h => h) (by rfl) (fun W hC => by (obtain ⟨k0, k1⟩ := hC); go_simp) hHeld ?_
          simp only [Act.put, List.setIfInBounds_toArray, List.set_cons_zero, List.set_cons_succ]
          refine wpAnyH_takeL (i := 4) (v := .pointer (some ⟨gt, j, none⟩)) rfl (by kernel_rfl) (by kernel_rfl) (by kernel_rfl) (fun _ _ _ h => h) (by rfl) (fun W hC => by (obtain ⟨k0, k1⟩ := hC); go_simp) hHeld ?_
          simp only [Act.put, List.setIfInBounds_toArray, List.set_cons_zero, List.set_cons_succ]
          refine wpAnyH_takeL (i := 5) (v := .slice ar Hj cr) rfl (by kernel_rfl) (by kernel_rfl) (by kernel_rfl) (fun _ _ _ h => h) (by rfl) (fun W hC => by (obtain ⟨k0, k1⟩ := hC); go_simp) hHeld ?_
          simp only [Act.put, List.setIfInBounds_toArray, List.set_cons_zero, List.set_cons_succ]
          refine wpAnyH_takeL (i := 6) (v := .slice a5 ps.length c5) rfl (by kernel_rfl) (by kernel_rfl) (by kernel_rfl) (fun _ _ _ h => h) (by rfl) (fun W hC => by (obtain ⟨k0, k1⟩ := hC); go_simp) hHeld ?_
          simp only [Act.put, List.setIfInBounds_toArray, List.set_cons_zero, List.set_cons_succ]
          refine wpAnyH_ready (rs := [7, 8]) (by kernel_rfl) (by simp) ?_
          refine AllReadyH.consL rfl (fun K hK => ?_) (AllReadyH.consL rfl (fun K hK => ?_) AllReadyH.nil)
          case' refine_1 =>
            go_simp
            refine (HOP.out _ hdd).mono ?_
            rintro e w6 ⟨ap', n1, cp', ar', n2, cr', an', n3, cn', rfl, hs1, hs2, hs3, hb6⟩
            have hb56 : Below w5.heap.size w5 w6 := hdd.trans hb6
            go_wp2_with fail
            refine hK.out _ _ (HKP.out _ hb56) (fun hHeld => ?_)
            clear hK K
            refine wpAnyH_ready (rs := [8]) (by kernel_rfl) (by simp) ?_
            refine AllReadyH.consL rfl (fun K hK => ?_) AllReadyH.nil
            go_simp
            have hba : Below w6.heap.size w6 (w6.alloc (.cells #[.slice none 0 0, .slice none 0 0, .slice none 0 0] 107)) := (Below.refl _ _).alloc (Nat.le_refl _) _
            refine hK.out _ _ (HKP.out _ (hb56.trans (hba.mono hb56.size))) (fun hHeld => ?_)
            clear hK K
            refine wpAnyH_ready (rs := [9]) (by kernel_rfl) (by simp) ?_
            refine AllReadyH.consL rfl (fun K hK => ?_) AllReadyH.nil
            go_simp
            have hba2 : Below w6.heap.size w6 (w6.alloc (.cells #[.slice ap' n1 cp', .slice ar' n2 cr', .slice an' n3 cn'] 107)) := (Below.refl _ _).alloc (Nat.le_refl _) _
            have hb7 := hb56.trans (hba2.mono hb56.size)
            refine hK.out _ _ (HKP.out _ hb7) (fun hHeld => ?_)
            clear hK K
            refine wpAnyH_done (by kernel_rfl) ?_ _
            have HU6 := hid (HU5.out.step hb7)
            have HT1 := hid (hs1.keep hba2)
            have HT2 := hid (hs2.keep hba2)
            have HT3 := hid (hs3.keep hba2)
            have HO6 : Hid ((w6.alloc (.cells #[.slice ap' n1 cp', .slice ar' n2 cr', .slice an' n3 cn'] 107)).heap[w6.heap.size]? = some (.cells #[.slice ap' n1 cp', .slice ar' n2 cr', .slice an' n3 cn'] 107 (0, 0))) := heap_alloc_new w6 _
            generalize w6.alloc (.cells #[.slice ap' n1 cp', .slice ar' n2 cr', .slice an' n3 cn'] 107) = W6 at *
            generalize w6.heap.size = Bo at *
            clear hb56 hba hba2 hb7 hs1 hs2 hs3 hb6 hHeld HKP HOP HU5 hct5 d0 hdd
            skip
          case' refine_2 =>
            go_simp
            have hb1 : Below w5.heap.size w5 (w5.drew.alloc (.cells #[.slice none 0 0, .slice none 0 0, .slice none 0 0] 107)) := hdd.alloc (Nat.le_refl _) _
            refine hK.out _ _ (HKP.out _ hb1) (fun hHeld => ?_)
            clear hK K
            refine wpAnyH_ready (rs := [7]) (by kernel_rfl) (by simp) ?_
            refine AllReadyH.consL rfl (fun K hK => ?_) AllReadyH.nil
            go_simp
            refine (HOP.out _ hb1).mono ?_
            rintro e w6 ⟨ap', n1, cp', ar', n2, cr', an', n3, cn', rfl, hs1, hs2, hs3, hb6⟩
            have hb56 : Below w5.heap.size w5 w6 := hb1.trans (hb6.mono hb1.size)
            go_wp2_with fail
            refine hK.out _ _ (HKP.out _ hb56) (fun hHeld => ?_)
            clear hK K
            have hO6 : w6.heap[w5.heap.size]? = some (.cells #[.slice none 0 0, .slice none 0 0, .slice none 0 0] 107 (0, 0)) := (hb6.block _ (by simp)).trans (heap_alloc_new w5.drew _)
            have x0 := thr0 hO6
            have x1 := thr1 hO6
            have x2 := thr2 hO6
            have f0 := thrF hO6 0
            have f1 := thrF hO6 1
            have f2 := thrF hO6 2
            refine wpAnyH_ready (rs := [9]) (by kernel_rfl) (by simp) ?_
            refine AllReadyH.consL rfl (fun K hK => ?_) AllReadyH.nil
            go_simp
            have hO7 := tri_arr (tri_set2 (tri_set1 (tri_set0 (thr_row hO6) (.slice ap' n1 cp')) (.slice ar' n2 cr')) (.slice an' n3 cn'))
            have hne : ∀ x, x ≠ w5.heap.size → (((w6.setCell ⟨w5.heap.size, 0, none⟩ (.slice ap' n1 cp')).setCell ⟨w5.heap.size, 1, none⟩ (.slice ar' n2 cr')).setCell ⟨w5.heap.size, 2, none⟩ (.slice an' n3 cn')).heap[x]? = w6.heap[x]? := fun x hx => by
              rw [Below.heap_setCell _ _ _ _ hx, Below.heap_setCell _ _ _ _ hx, Below.heap_setCell _ _ _ _ hx]
            have hzz : w6.heap.size ≤ (((w6.setCell ⟨w5.heap.size, 0, none⟩ (.slice ap' n1 cp')).setCell ⟨w5.heap.size, 1, none⟩ (.slice ar' n2 cr')).setCell ⟨w5.heap.size, 2, none⟩ (.slice an' n3 cn')).heap.size := by simp [World.setCell]
            have hb7 := ((hb56.setCell (p := ⟨w5.heap.size, 0, none⟩) (Nat.le_refl _) (.slice ap' n1 cp')).setCell (p := ⟨w5.heap.size, 1, none⟩) (Nat.le_refl _) (.slice ar' n2 cr')).setCell (p := ⟨w5.heap.size, 2, none⟩) (Nat.le_refl _) (.slice an' n3 cn')
            refine hK.out _ _ (HKP.out _ hb7) (fun hHeld => ?_)
            clear hK K
            refine wpAnyH_done (by kernel_rfl) ?_ _
            have HU6 := hid (HU5.out.step hb7)
            have HT1 := hid (hs1.onlyO ⟨_, _, hO6⟩ hzz hne)
            have HT2 := hid (hs2.onlyO ⟨_, _, hO6⟩ hzz hne)
            have HT3 := hid (hs3.onlyO ⟨_, _, hO6⟩ hzz hne)
            have HO6 := hid hO7
            generalize ((w6.setCell ⟨w5.heap.size, 0, none⟩ (.slice ap' n1 cp')).setCell ⟨w5.heap.size, 1, none⟩ (.slice ar' n2 cr')).setCell ⟨w5.heap.size, 2, none⟩ (.slice an' n3 cn') = W6 at *
            generalize w5.heap.size = Bo at *
            clear hb56 hb7 hs1 hs2 hs3 hb6 hHeld HKP HOP HU5 hct5 d0 hdd hO6 hO7 hne hzz x0 x1 x2 f0 f1 f2 hb1
            skip
          all_goals
            have d2 := thr2 HU6.out.out
            have dW0 := thr0 HO6.out
            have dW1 := thr1 HO6.out
            have dW2 := thr2 HO6.out
            have hbs : B ≤ W6.heap.size := by have := HU6.out.size; omega
            have HLN : Hid ((mkOi q n K r s word D i a j).length + 1 ≤ 1000) := by unfold Hid; rw [mkOi_len]; omega
            go_wp2_with (at_builtin; refine wpList_on1 W6 B rfl _ _ rfl _ _ _ _ (mkOi q n K r s word D i a j) (mko q n K r s word D i a j) HU6.out.ops HT1.out HT2.out HT3.out rfl rfl (by have := HLN.out; omega) hbs ?_)
            intro v3' w8 ho8 hb8 hz8 hns8
            obtain ⟨ax8, cx8, hv8, _⟩ := ho8.lst
            obtain ⟨nx8, hnx8⟩ : ∃ nx8, nx8 = (mkOi q n K r s word D i a j ++ [mko q n K r s word D i a j]).length := ⟨_, rfl⟩
            rw [← hnx8] at hv8
            subst hv8
            clear hnx8
            obtain ⟨ho9, hU9⟩ := HU6.out.app ho8 hb8 (by simpa using hz8) (fun b c t f hg hne => hns8 b c t f.1 f.2 hg hne)
            rw [← mkOi_succ] at hU9
            have HU9 := hid hU9
            have d2' := thr2 ho9
            have y2 := thrF ho9 2
            clear ho8 hb8 hz8 hns8 ho9 hU9 HU6 HT1 HT2 HT3 d2 dW0 dW1 dW2 HO6
            go_wp2_with fail
            go_roundw
            case rel => exact ⟨j + 1, .slice ax8 nx8 cx8, by omega, by go_num, HU9.out⟩
            case measure => simp [intOf]; omega
        · obtain rfl : j = i := by omega
          have hji2 : ¬ (j : Int) < (j : Int) := by omega
          obtain ⟨a3, c3, hv3, _⟩ := hU.out.ops.lst
          rw [mkOi_len] at hv3
          subst hv3
          have d0 := thr0 hU.out.out
          have d1' := thr1 hU.out.out
          have d2 := thr2 hU.out.out
          have g0 := thr0 hU.out.res
          have g1 := thr1 hU.out.res
          have g2 := thr2 hU.out.res
          have y0 := thrF hU.out.res 0
          have y1 := thrF hU.out.res 1
          have y2 := thrF hU.out.res 2
          have HX := hid hU.out.give
          clear hU
          go_wp2_with fail
          (try simp only [Exit.inBlock, Exit.then])
          obtain ⟨hres, hr, hl, ho, hp, hc, hg⟩ := HX.out
          refine bodyPost_ret (results_ctS rfl _ _ (B + 1) 36 _ (0, 0) _ rfl hres Tryz.underlying36 rfl (by kernel_rfl)) rfl ?_
          obtain ⟨l1, l2, l3, hl2⟩ := hl
          obtain ⟨p1, p2, p3, hp2⟩ := hp
          have el1 : aL = l1 := by injection l3
          have el2 : cL = l2 := by injection l3
          have ep1 : aA = p1 := by injection p3
          have ep2 : cA = p2 := by injection p3
          subst el1 el2 ep1 ep2
          rw [HD3.out] at hc
          have hr' := hr.mono (Nat.le_of_eq HBE.out)
          have ho' := ho.monoZ (Nat.le_of_eq HBE.out)
          exact ⟨e1, f1, aL, cL, a3, c3, aA, cA, by rw [← HLE.out]; rfl, hr', by rw [← HLE.out]; exact hl2, ho', by rw [← HAE.out]; exact hp2, by rw [← HLE.out]; exact hc, hg⟩

end Go.Proofs.YtfppkjpgihnibaaGreatDoor
