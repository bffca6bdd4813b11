/- SumsMakes: the walk. -/
import Derived.Test.YtecaifjbmfianagDoorLawUTotals
namespace Go.Proofs.YtecaifjbmfianagDoor
open Go.RowKit

theorem tbs_len (p : Nat) (rows : List (List Int)) (drawn : List Int) (i : Nat) : (tbs p rows drawn i).length = rows.length := by
  induction i with
  | zero => rfl
  | succ i ih => rw [tbs, fixr_len, ih]
theorem tbs_lens {p : Nat} {rows : List (List Int)} {drawn : List Int} {v : Nat} (h : ∀ k, k < rows.length → (rat rows k).length = 2 ^ v) : ∀ i, i ≤ v → ∀ k, k < rows.length → (rat (tbs p rows drawn i) k).length = 2 ^ (v - i)
  | 0, _, k, hk => by rw [Nat.sub_zero]; exact h k hk
  | i + 1, hi, k, hk => by
    rw [tbs, fixr_rat (by rw [tbs_len]; exact hk), fixl_len, tbs_lens h i (by omega) k hk, show v - i = v - (i + 1) + 1 from by omega, Nat.pow_succ]
    omega
theorem tbs_fits {p : Nat} (h3 : 3 ≤ p) (hm : p ≤ 2147483647) {rows : List (List Int)} {drawn : List Int} (h : ∀ k, k < rows.length → Fits (rat rows k)) : ∀ i k, k < rows.length → Fits (rat (tbs p rows drawn i) k)
  | 0, k, hk => h k hk
  | i + 1, k, hk => by
    rw [tbs]
    exact fixr_fits h3 hm _ _ k (by rw [fixr_len, tbs_len]; exact hk)
theorem mkR_len {p : Nat} {rows : List (List Int)} {drawn : List Int} (h : mke p rows drawn = 0) : (mkR p rows drawn).length = drawn.length := by unfold mkR; rw [if_pos h]; simp
theorem mkR_rat {p : Nat} {rows : List (List Int)} {drawn : List Int} (h : mke p rows drawn = 0) {i : Nat} (hi : i < drawn.length) : rat (mkR p rows drawn) i = rndl p (tbs p rows drawn i) := by unfold mkR; rw [if_pos h]; simp [rat, hi]
theorem mkF_len {p : Nat} {rows : List (List Int)} {drawn : List Int} (h : mke p rows drawn = 0) : (mkF p rows drawn).length = rows.length := by unfold mkF; rw [if_pos h, ls_len]
theorem mkF_at {p : Nat} {rows : List (List Int)} {drawn : List Int} (h : mke p rows drawn = 0) {k : Nat} (hk : k < rows.length) : zat (mkF p rows drawn) k = zat (rat (tbs p rows drawn drawn.length) k) 0 % (p : Int) := by unfold mkF; rw [if_pos h, ls_at _ _ _ hk]

/-- what stands behind Make -/
structure MkW (d dl rl fl : Nat) (rows R : List (List Int)) (F : List Int) (ar af ao : Option Addr) (cr cf co O : Nat) (w W : World) : Prop where
  bel : Below w.heap.size w W
  own : InR W ao co rows
  blk : W.heap[O]? = some (.cells #[.slice ar rl cr, .slice af fl cf] 29 (0, 0))
  rr : LstR W.heap.size W ar cr R
  ff : Lst W.heap.size W af cf F
theorem MkW.below {d dl rl fl : Nat} {rows R : List (List Int)} {F : List Int} {ar af ao : Option Addr} {cr cf co O : Nat} {w W W' : World} (h : MkW d dl rl fl rows R F ar af ao cr cf co O w W) (e : Below W.heap.size W W') : MkW d dl rl fl rows R F ar af ao cr cf co O w W' :=
  ⟨h.bel.trans (e.mono h.bel.size), h.own.below e, (e.block _ (Array.getElem?_eq_some_iff.1 h.blk).1).trans h.blk, (h.rr.below e).mono e.size, (h.ff.below e).mono e.size⟩

set_option maxRecDepth 100000 in
set_option maxHeartbeats 4000000 in
theorem umakes_good (MK : MakAs) (q : Nat) (a1 a2 : Option Addr) (c1 c2 : Nat) (rows : List (List Int)) (drawn : List Int) (w : World) (hL : Laid w) (hT : TabAt 2 Lib.deBruijn64tab w) (h3 : 3 ≤ q) (h4 : q ≤ 2147483647) (hpr : Num.Prime q) (h1 : InR w a1 c1 rows) (h2 : InL w a2 c2 drawn) :
    Calls Tryd.prog 3 #[.int .i64 q, .slice a1 rows.length c1, .slice a2 drawn.length c2] w fun e w' => e = .returned (.bool true) ∧ Below w.heap.size w w' := by
  have HP := hid hpr
  have H1 := hid h1
  have H2 := hid h2
  have HL := hid hL
  have HTB := hid hT
  have HMK := hid MK
  have hln := h1.len
  have hdn := h2.len
  clear hpr h1 h2 hL hT MK
  obtain ⟨d, hd⟩ : ∃ d, d = rows.length := ⟨_, rfl⟩
  obtain ⟨dl, hdl⟩ : ∃ dl, dl = drawn.length := ⟨_, rfl⟩
  have HD := hid hd
  have HDL := hid hdl
  rw [← hd] at hln ⊢
  rw [← hdl] at hdn ⊢
  have HCP : Hid (∀ W, Below w.heap.size w W → Calls Tryd.prog 8 #[.slice a1 d c1] W fun e w' => ∃ v, e = .returned v ∧ OwnR W.heap.size w' v rows ∧ Below W.heap.size W w') := fun W h => by
    have := copied_any c1 a1 rows W (by have := H1.out.len; omega) (fun k hk => by have := H1.out.lens k hk; omega) (H1.out.below h).lst
    rw [← hd] at this
    exact this
  clear hd hdl
  go_enter Tryd.func3, Tryd.ntmps3
  go_wp2_with fail
  refine (field_yes q w h3 h4 HP.out).mono ?_
  rintro e w1 ⟨rfl, hc, hb1, hs1⟩
  have HB1 := hid hb1
  have HI1 : Hid (InT q w.heap.size w1) := ⟨⟨HP.out, h3, h4, hc⟩, tabu_below HTB.out hb1⟩
  clear hc hb1
  go_wp2_with fail
  refine (HCP.out w1 HB1.out).mono ?_
  rintro e w2 ⟨v2, rfl, ho2, hb2⟩
  obtain ⟨ao, co, hv2, hr2⟩ := H1.out.own ho2
  rw [← HD.out] at hv2
  subst hv2
  have HB2 : Hid (Below w.heap.size w w2) := HB1.out.trans (hb2.mono HB1.out.size)
  have HO2 := hid hr2
  have HI2 := hid (HI1.out.below hb2)
  obtain ⟨R, hR⟩ : ∃ R, R = mkR q rows drawn := ⟨_, rfl⟩
  obtain ⟨F, hF⟩ : ∃ F, F = mkF q rows drawn := ⟨_, rfl⟩
  obtain ⟨E, hE⟩ : ∃ E, E = mke q rows drawn := ⟨_, rfl⟩
  have HRR := hid hR
  have HFF := hid hF
  have HEE := hid hE
  have HM2 : Hid (Calls Tryd.prog 9 #[.pointer (some ⟨w.heap.size, 0, none⟩), .slice ao d co, .slice a2 dl c2] w2 fun e w' => ∃ ar cr af cf, e = .returned (.tuple #[.agg #[.slice ar R.length cr, .slice af F.length cf], errz E]) ∧ LstR w'.heap.size w' ar cr R ∧ Lst w'.heap.size w' af cf F ∧ Below w2.heap.size w2 w') := by
    have h := HMK.out q w.heap.size co c2 ao a2 rows drawn w2 HI2.out HO2.out (H2.out.below HB2.out)
    rw [← HD.out, ← HDL.out, ← hR, ← hF, ← hE] at h
    exact h
  clear ho2 hr2 hb2 HCP HI1 HB1 hR hF hE
  obtain ⟨rl, hrl⟩ : ∃ rl, rl = R.length := ⟨_, rfl⟩
  obtain ⟨fl, hfl⟩ : ∃ fl, fl = F.length := ⟨_, rfl⟩
  rw [← hrl, ← hfl] at HM2
  have HRL := hid hrl
  have HFL := hid hfl
  clear hrl hfl
  go_wp2_with fail
  refine HM2.out.mono ?_
  rintro e w3 ⟨ar, cr, af, cf, rfl, hr3, hf3, hb3⟩
  have HM3 : Hid (MkW d dl rl fl rows R F ar af ao cr cf co w3.heap.size w (w3.alloc (.cells #[.slice ar rl cr, .slice af fl cf] 29))) := by
    have hba : Below w3.heap.size w3 (w3.alloc (.cells #[.slice ar rl cr, .slice af fl cf] 29)) := (Below.refl _ _).alloc (Nat.le_refl _) _
    have hbw := HB2.out.trans (hb3.mono HB2.out.size)
    exact ⟨hbw.trans (hba.mono hbw.size), (HO2.out.below hb3).below hba, heap_alloc_new w3 _, (hr3.below hba).mono hba.size, (hf3.below hba).mono hba.size⟩
  obtain ⟨V, hV⟩ : ∃ V, V = ovr rows := ⟨_, rfl⟩
  have HVV := hid hV
  have HOV : Hid (∀ W, Below w.heap.size w W → Calls Tryd.prog 10 #[.slice a1 d c1] W fun e w' => e = .returned (.int .i64 V) ∧ ∃ n, w' = W.drewN n) := fun W hb => by
    have h := rover_any c1 W.heap.size a1 rows W (H1.out.below hb).lst (by have := H1.out.len; omega)
    rw [← HD.out, ← hV] at h
    exact h
  clear hV hb3 HM2 HO2 HI2 HB2 hr3 hf3
  go_wp2_with fail
  refine (HOV.out _ HM3.out.bel).mono ?_
  rintro e w4 ⟨rfl, n4, rfl⟩
  have HM5 := hid (HM3.out.below (below_drewN (Below.refl _ _) n4))
  obtain ⟨O, hO⟩ : ∃ O, O = w3.heap.size := ⟨_, rfl⟩
  rw [← hO] at HM5 ⊢
  clear HOV HM3 hO
  generalize (w3.alloc (.cells #[.slice ar rl cr, .slice af fl cf] 29)).drewN n4 = w5 at *
  by_cases hcs : V = (dl : Int)
  · by_cases hcq : d < q
    · have HOK : Hid (∃ v : Nat, v ≤ 12 ∧ ovr rows = v ∧ 1 ≤ rows.length ∧ rows.length ≤ 4 ∧ ∀ k, k < rows.length → (rat rows k).length = 2 ^ v) := ovr_of (by rw [← HVV.out]; omega)
      have HE0 : Hid (E = 0) := by unfold Hid; rw [HEE.out]; unfold mke; rw [if_pos (by rw [← HVV.out, ← HDL.out]; exact hcs), if_pos (by rw [← HD.out]; exact hcq)]
      have t1 : ¬ V < 0 := by omega
      have t2 : (V != (dl : Int)) = false := by simp [hcs]
      have t3 : ¬ (d : Int) ≥ (q : Int) := by omega
      have HE1 : Hid (mke q rows drawn = 0) := by unfold Hid; rw [← HEE.out]; exact HE0.out
      have hrl : rl = dl := by rw [HRL.out, HRR.out, mkR_len HE1.out, ← HDL.out]
      have hfl : fl = d := by rw [HFL.out, HFF.out, mkF_len HE1.out, ← HD.out]
      subst hrl
      subst hfl
      have HV12 : Hid (∃ v : Nat, v ≤ 12 ∧ rl = v ∧ ∀ k, k < rows.length → (rat rows k).length = 2 ^ v) := by
        obtain ⟨v, e1, e2, _, _, e5⟩ := HOK.out
        exact ⟨v, e1, by rw [← HVV.out] at e2; omega, e5⟩
      have HD1 : Hid (1 ≤ fl ∧ fl ≤ 4) := by
        obtain ⟨v, _, _, e3, e4, _⟩ := HOK.out
        exact ⟨by rw [HD.out]; exact e3, by rw [HD.out]; exact e4⟩
      have HT5 := hid (told_any E 0 w5 (HL.out.below HM5.out.bel))
      rw [HE0.out] at HT5 ⊢
      have u1 : ((rl : Int) != (rl : Int)) = false := by simp
      have u2 : ((fl : Int) != (fl : Int)) = false := by simp
      clear hcs hcq
      go_wp2_with fail
      refine HT5.out.mono ?_
      rintro e w6 ⟨rfl, hb6⟩
      have HM6 := hid (HM5.out.below hb6)
      have d0 := dua0 HM6.out.blk
      have d1 := dua1 HM6.out.blk
      have HN0 : Hid (LstR w6.heap.size w6 a1 c1 (tbs q rows drawn 0)) := (H1.out.below HM6.out.bel).lst
      clear hb6 HT5 HM5
      go_wp2_with fail
      go_loopw [15, 16] (fun nv iv wr => ∃ (i : Nat) (an' : Option Addr) (cn : Nat), i ≤ rl ∧ iv = .int .i64 i ∧ nv = .slice an' fl cn ∧ Hid (LstR wr.heap.size wr an' cn (tbs q rows drawn i) ∧ MkW fl rl rl fl rows R F ar af ao cr cf co O w wr)) (fun _ iv _ => rl - (intOf iv).toNat)
      case atStart => exact ⟨0, a1, c1, by omega, rfl, rfl, HN0.out, HM6.out⟩
      case round =>
        obtain ⟨i, an', cn, hi, rfl, rfl, hI⟩ := hrel
        clear d0 d1
        by_cases hlt : i < rl
        · have hlt2 : (i : Int) < (rl : Int) := by omega
          have hks : IntKind.i64.wrap ((i : Int) + 1) = (i : Int) + 1 := by rw [IntKind.wrap_i64]; omega
          obtain ⟨T, hT⟩ : ∃ T, T = tbs q rows drawn i := ⟨_, rfl⟩
          have HTL : Hid (T.length = fl) := by unfold Hid; rw [hT, tbs_len, HD.out]
          have HTN : Hid (∃ N, N ≤ 4096 ∧ ∀ k, k < T.length → (rat T k).length = N) := by
            obtain ⟨v, e1, e2, e3⟩ := HV12.out
            refine ⟨2 ^ (v - i), two12 (by omega), fun k hk => ?_⟩
            rw [HTL.out] at hk
            rw [hT]
            exact tbs_lens e3 i (by omega) k (by rw [← HD.out]; exact hk)
          have HTF : Hid (∀ k, k < T.length → Fits (rat T k)) := fun k hk => by rw [HTL.out] at hk; rw [hT]; exact tbs_fits h3 h4 H1.out.fit i k (by rw [← HD.out]; exact hk)
          have HNX : Hid (fixr q T (zat drawn i) = tbs q rows drawn (i + 1)) := by unfold Hid; rw [hT]; rfl
          have HRI : Hid (rat R i = rndl q T) := by unfold Hid; rw [HRR.out, mkR_rat HE1.out (by rw [← HDL.out]; exact hlt), hT]
          have HRN : Hid (∀ W, LstR W.heap.size W an' cn T → Calls Tryd.prog 12 #[.int .i64 q, .slice an' fl cn] W fun e w' => ∃ v, e = .returned v ∧ w'.ownsRow W.heap.size 3 1 v (rndl q T).length ((rndl q T).map (Value.int .i64)) ∧ Below W.heap.size W w') := fun W h => by
            obtain ⟨N, e1, e2⟩ := HTN.out
            have := rround_any q cn N an' T W h3 h4 (by rw [HTL.out]; exact HD1.out.1) (by rw [HTL.out]; have := HD1.out.2; omega) e2 (by omega) HTF.out h
            rw [HTL.out] at this
            exact this
          have HLT := hid hI.out.1
          rw [← hT] at HLT
          have HMI := hid hI.out.2
          have HRX := hid (HRN.out wr HLT.out)
          have HRLN : Hid ((rndl q T).length ≤ 5) := by unfold Hid; rw [rndl_len, HTL.out]; have := HD1.out.2; omega
          generalize rndl q T = G at *
          clear hI hT
          go_wp2_with fail
          refine HRX.out.mono ?_
          rintro e w7 ⟨v7, rfl, ho7, hb7⟩
          obtain ⟨a7, c7, hv7, hl7⟩ := lst_of_owns ho7
          subst hv7
          have HM7 := hid (HMI.out.below hb7)
          have HT7 := hid ((HLT.out.below hb7).mono hb7.size)
          obtain ⟨br, orr, ak, ck, hae, hbr, hcr, hlk⟩ := HM7.out.rr.row i (by rw [← HRL.out]; exact hlt)
          subst hae
          have d0 := dua0 HM7.out.blk
          rw [HRI.out] at hcr hlk
          have HI7 := hid (ints_same w7.heap.size w7.heap.size G ak a7 ck c7 w7 hlk.row hl7.row (by have := HRLN.out; omega))
          clear ho7 hb7 hl7 hlk HRX HLT HMI HRI
          go_wp2_with fail
          refine HI7.out.mono ?_
          rintro e w8 ⟨rfl, n8, rfl⟩
          have HM8 := hid (HM7.out.below (below_drewN (Below.refl _ _) n8))
          have HT8 := hid (HT7.out.below (below_drewN (Below.refl _ _) n8))
          have hz8 : Hid ((w7.drewN n8).heap.size = w7.heap.size) := rfl
          rw [← hz8.out] at HT8
          clear HI7 HM7 HT7 d0 hcr hz8
          generalize w7.drewN n8 = W8 at *
          obtain ⟨bd, od, hae, hbd, hxd⟩ := H2.out.lst.row i (by rw [← HDL.out]; exact hlt)
          subst hae
          have xd := (HM8.out.bel.cell (p := ⟨bd, od + i, none⟩) hbd).trans hxd
          obtain ⟨f1, f2⟩ := H2.out.fit.all i
          obtain ⟨dr, hdr⟩ : ∃ dr, dr = zat drawn i := ⟨_, rfl⟩
          rw [← hdr] at xd f1 f2 HNX
          have HFX : Hid (Calls Tryd.prog 14 #[.int .i64 q, .slice an' fl cn, .int .i64 dr] W8 fun e w' => ∃ v, e = .returned v ∧ OwnR W8.heap.size w' v (fixr q T dr) ∧ Below W8.heap.size W8 w') := by
            obtain ⟨N, e1, e2⟩ := HTN.out
            have := rfixed_any q cn an' T dr W8 h3 h4 (by rw [HTL.out]; have := HD1.out.2; omega) HTF.out (fun k hk => by rw [e2 k hk]; omega) f1 f2 HT8.out
            rw [HTL.out] at this
            exact this
          clear hdr hxd
          go_wp2_with fail
          refine HFX.out.mono ?_
          rintro e w9 ⟨v9, rfl, ho9, hb9⟩
          rw [HNX.out] at ho9
          obtain ⟨a9, c9, hv9, hl9⟩ := ho9.lst
          rw [tbs_len, ← HD.out] at hv9
          subst hv9
          have HE9 : Hid (LstR w9.heap.size w9 a9 c9 (tbs q rows drawn (i + 1)) ∧ MkW fl rl rl fl rows R F (some ⟨br, orr, none⟩) af ao cr cf co O w w9) := ⟨hl9, HM8.out.below hb9⟩
          clear ho9 hb9 hl9 HFX HM8 HT8 xd HNX
          go_wp2_with fail
          go_roundw
          case rel => exact ⟨i + 1, a9, c9, by omega, by go_num, rfl, HE9⟩
          case measure => simp [intOf]; omega
        · obtain rfl : i = rl := by omega
          have hlt2 : ¬ (i : Int) < (i : Int) := by omega
          obtain ⟨T, hT⟩ : ∃ T, T = tbs q rows drawn i := ⟨_, rfl⟩
          have HTL : Hid (T.length = fl) := by unfold Hid; rw [hT, tbs_len, HD.out]
          have HTN : Hid (∀ k, k < fl → (rat T k).length = 1) := fun k hk => by
            obtain ⟨v, e1, e2, e3⟩ := HV12.out
            rw [hT, tbs_lens e3 i (by omega) k (by rw [← HD.out]; exact hk), show v - i = 0 from by omega]
          have HTF : Hid (∀ k, k < fl → Fits (rat T k)) := fun k hk => by rw [hT]; exact tbs_fits h3 h4 H1.out.fit i k (by rw [← HD.out]; exact hk)
          have HFK : Hid (∀ k, k < fl → zat F k = zat (rat T k) 0 % (q : Int)) := fun k hk => by rw [HFF.out, mkF_at HE1.out (by rw [← HD.out]; exact hk), ← HDL.out, hT]
          have HLT := hid hI.out.1
          rw [← hT] at HLT
          have HMI := hid hI.out.2
          clear hI hT
          go_wp2_with fail
          go_loop [19] (fun jv => ∃ j : Nat, j ≤ fl ∧ jv = .int .i64 j) (fun jv => fl - (intOf jv).toNat)
          case atStart => exact ⟨0, by omega, rfl⟩
          case round =>
            obtain ⟨j, hj, rfl⟩ := hrel
            by_cases hjt : j < fl
            · have hjt2 : (j : Int) < (fl : Int) := by omega
              have hjw : IntKind.i64.wrap ((j : Int) + 1) = (j : Int) + 1 := by rw [IntKind.wrap_i64]; omega
              obtain ⟨bn, on, ak, ck, hae, hbn, hcn, hlk⟩ := HLT.out.row j (by rw [HTL.out]; exact hjt)
              subst hae
              have h1l := HTN.out j hjt
              obtain ⟨bk, ok, hbe, _, hx0⟩ := hlk.row 0 (by omega)
              subst hbe
              rw [h1l] at hcn
              rw [Nat.add_zero] at hx0
              obtain ⟨bf, of', hfe, hbf, hxf⟩ := HMI.out.ff.row j (by rw [← HFL.out]; exact hjt)
              subst hfe
              have d1 := dua1 HMI.out.blk
              obtain ⟨f1, f2⟩ := (HTF.out j hjt).all 0
              rw [HFK.out j hjt] at hxf
              obtain ⟨y, hy⟩ : ∃ y, y = zat (rat T j) 0 := ⟨_, rfl⟩
              rw [← hy] at hx0 hxf f1 f2
              have HOF := hid (rof_any q y wr h3 h4 f1 f2)
              generalize y % (q : Int) = z at *
              have hzz : (z != z) = false := by simp
              clear hy hlk h1l
              go_wp2_with fail
              refine HOF.out.mono ?_
              rintro e w7 ⟨rfl, rfl⟩
              go_wp2_with fail
              go_round
              case rel => exact ⟨j + 1, by omega, by go_num⟩
              case measure => simp [intOf]; omega
            · obtain rfl : j = fl := by omega
              have hjt2 : ¬ (j : Int) < (j : Int) := by omega
              have HI10 : Hid (Calls Tryd.prog 16 #[.slice ao j co, .slice a1 j c1] wr fun e w' => e = .returned (.bool true) ∧ ∃ k, w' = wr.drewN k) := by
                have h := rows_same HMI.out.own (H1.out.below HMI.out.bel)
                rw [← HD.out] at h
                exact h
              go_wp2_with fail
              refine HI10.out.mono ?_
              rintro e w11 ⟨rfl, n11, rfl⟩
              clear HI10
              go_wp2_with fail
              go_ret
              exact ⟨rfl, below_drewN HMI.out.bel n11⟩
    · have HE0 : Hid (E = 3) := by unfold Hid; rw [HEE.out]; unfold mke; rw [if_pos (by rw [← HVV.out, ← HDL.out]; exact hcs), if_neg (by rw [← HD.out]; exact hcq)]
      have t1 : ¬ V < 0 := by omega
      have t2 : (V != (dl : Int)) = false := by simp [hcs]
      have t3 : (d : Int) ≥ (q : Int) := by omega
      have hrl : rl = 0 := by rw [HRL.out, HRR.out]; unfold mkR; rw [← HEE.out, HE0.out]; rfl
      have hfl : fl = 0 := by rw [HFL.out, HFF.out]; unfold mkF; rw [← HEE.out, HE0.out]; rfl
      subst hrl
      subst hfl
      have HT5 := hid (told_any E 3 w5 (HL.out.below HM5.out.bel))
      rw [HE0.out] at HT5 ⊢
      clear hcs hcq
      go_wp2_with fail
      refine HT5.out.mono ?_
      rintro e w6 ⟨rfl, hb6⟩
      have HM6 := hid (HM5.out.below hb6)
      have d0 := dua0 HM6.out.blk
      have d1 := dua1 HM6.out.blk
      clear hb6 HT5 HM5
      go_wp2_with fail
      go_ret
      exact ⟨rfl, HM6.out.bel⟩
  · have HE0 : Hid (E = 2) := by unfold Hid; rw [HEE.out]; unfold mke; rw [if_neg (by rw [← HVV.out, ← HDL.out]; exact hcs)]
    have t2 : (V != (dl : Int)) = true := by simp [hcs]
    have hrl : rl = 0 := by rw [HRL.out, HRR.out]; unfold mkR; rw [← HEE.out, HE0.out]; rfl
    have hfl : fl = 0 := by rw [HFL.out, HFF.out]; unfold mkF; rw [← HEE.out, HE0.out]; rfl
    subst hrl
    subst hfl
    have HT5 := hid (told_any E 2 w5 (HL.out.below HM5.out.bel))
    rw [HE0.out] at HT5 ⊢
    clear hcs
    by_cases t1 : V < 0
    all_goals
      go_wp2_with fail
      refine HT5.out.mono ?_
      rintro e w6 ⟨rfl, hb6⟩
      have HM6 := hid (HM5.out.below hb6)
      have d0 := dua0 HM6.out.blk
      have d1 := dua1 HM6.out.blk
      clear hb6 HT5 HM5
      go_wp2_with fail
      go_ret
      exact ⟨rfl, HM6.out.bel⟩

set_option maxRecDepth 100000 in
theorem umakes_walk (MK : MakAs) (p : Int) (a1 a2 : Option Addr) (c1 c2 : Nat) (rows : List (List Int)) (drawn : List Int) (w : World) (hL : Laid w) (hT : TabAt 2 Lib.deBruijn64tab w) (hp1 : -9223372036854775808 ≤ p) (hp2 : p ≤ 9223372036854775807)
    (hr1 : rows.length ≤ 5864062014634 ∧ ∀ k, k < rows.length → (rat rows k).length ≤ 17592186043904) (hf1 : ∀ k, k < rows.length → Fits (rat rows k)) (hl1 : LstR w.heap.size w a1 c1 rows) (hr2 : drawn.length ≤ 17592186043904) (hf2 : Fits drawn) (hl2 : Lst w.heap.size w a2 c2 drawn) :
    Calls Tryd.prog 3 #[.int .i64 p, .slice a1 rows.length c1, .slice a2 drawn.length c2] w fun e w' => e = .returned (.bool true) ∧ Below w.heap.size w w' := by
  by_cases hg : okPrime p
  · obtain ⟨hq3, hq4, hqp⟩ := hg
    obtain ⟨q, rfl⟩ := Int.eq_ofNat_of_zero_le (show 0 ≤ p by omega)
    exact umakes_good MK q a1 a2 c1 c2 rows drawn w hL hT (by omega) (by omega) (by simpa using hqp) ⟨hr1.1, hr1.2, hf1, hl1⟩ ⟨hr2, hf2, hl2⟩
  · clear hr1 hf1 hl1 hr2 hf2 hl2 MK
    go_enter Tryd.func3, Tryd.ntmps3
    go_wp2_with fail
    refine (field_no p w hL hg hp1 hp2).mono ?_
    rintro e w1 ⟨rfl, hb1⟩
    go_wp2_with fail
    go_ret
    exact ⟨rfl, hb1⟩

end Go.Proofs.YtecaifjbmfianagDoor
