/- Package sums: Make. -/
import Derived.Test.YtecaifjbmfianagDoorSmgF
namespace Go.Proofs.YtecaifjbmfianagDoor
open Go.RowKit

theorem mkR_no {p : Nat} {rows : List (List Int)} {drawn : List Int} (h : mke p rows drawn ≠ 0) : mkR p rows drawn = [] := by unfold mkR; rw [if_neg h]
theorem mkF_no {p : Nat} {rows : List (List Int)} {drawn : List Int} (h : mke p rows drawn ≠ 0) : mkF p rows drawn = [] := by unfold mkF; rw [if_neg h]
theorem lstR_none (n0 : Nat) (w : World) : LstR n0 w none 0 [] := ⟨fun k hk => by simp at hk, by simp, fun _ => rfl⟩

set_option maxRecDepth 100000 in
set_option maxHeartbeats 4000000 in
theorem mak_as : MakAs := by
  intro p b c1 c2 a1 a2 rows drawn w hF hR hD
  have h3 := hF.h3
  have hm := hF.hm
  have hmx : Tryd.prog.follows .mixedOrders = true := by kernel_rfl
  have HF := hid hF
  have HR := hid hR
  have HD := hid hD
  have hrb := hR.len
  have hdb := hD.len
  have HAT : Hid (∀ W', Below w.heap.size w W' → Calls Tryd.prog 32 #[.slice a1 rows.length c1] W' fun e w' => e = .returned (.bool (decide (0 ≤ ovr rows))) ∧ Below W'.heap.size W' w') := fun W' hb => aretables_any c1 a1 rows W' (by omega) (fun k hk => by have := hR.lens k hk; omega) (hR.below hb).lst
  have HB0 : Hid (Below w.heap.size w (w.alloc (.cells #[.slice none 0 0, .slice none 0 0] 29))) := (Below.refl _ _).alloc (Nat.le_refl _) _
  have HR0 := hid (dub_new w 29 (.slice none 0 0) (.slice none 0 0))
  clear hF hR hD
  by_cases hov : 0 ≤ ovr rows
  · rw [decide_eq_true hov] at HAT
    obtain ⟨v, e1, e2, e3, e4, e5⟩ := ovr_of hov
    obtain ⟨b0, o0, ak, ck, rfl, hb0, hc0, _⟩ := HR.out.lst.row 0 (by omega)
    rw [e5 0 (by omega), Nat.add_zero] at hc0
    have HC0 : Hid (∀ W', Below w.heap.size w W' → W'.cell? ⟨b0, o0, none⟩ = some (.slice ak (2 ^ v) ck)) := fun W' hb => (hb.cell (p := ⟨b0, o0, none⟩) hb0).trans hc0
    have HV : Hid (∀ W', Below w.heap.size w W' → Calls Tryd.prog 33 #[.slice ak (2 ^ v) ck] W' fun e w' => e = .returned (.int .i64 (v : Int)) ∧ w' = W') := fun W' hb => vars_any (2 ^ v) v ck ak W' e1 rfl (HF.out.below hb).tab
    have HPL : Hid (∀ W', Below w.heap.size w W' → Calls Tryd.prog 34 #[.pointer (some ⟨b, 0, none⟩), .int .i64 (rows.length : Int)] W' fun e w' => e = .returned (.bool (decide ((rows.length : Int) < (p : Int)))) ∧ w' = W') := fun W' hb => hasplaces_any p b _ W' (HF.out.below hb).cell
    have t3 : (0 : Int) < (rows.length : Int) := by omega
    by_cases hvd : drawn.length = v
    · have u1 : ((v : Int) != (v : Int)) = false := by simp
      by_cases hp : rows.length < p
      · have hz : mke p rows drawn = 0 := by unfold mke; rw [if_pos (by omega), if_pos hp]
        rw [decide_eq_true (show (rows.length : Int) < (p : Int) by omega)] at HPL
        have HZ := hid hz
        have HTW := hid (tbW_of HF.out.pr h3 hm hz)
        rw [hz, errz_nil, mkR_len hz, mkF_len hz, hvd]
        obtain ⟨d, hd⟩ : ∃ d, d = rows.length := ⟨_, rfl⟩
        have HDD := hid hd
        have HVD := hid hvd
        have hd1 : 1 ≤ d := by omega
        have hd4 : d ≤ 4 := by omega
        rw [← hd] at HAT HPL t3 ⊢
        obtain ⟨R, hRR⟩ : ∃ R : Nat → List Int, R = fun j => rndl p (tbs p rows drawn j) := ⟨_, rfl⟩
        have HRL : Hid (∀ j, (R j).length = d + 1) := fun j => by rw [hRR]; simp only; rw [rndl_len, tbs_len, hd]
        obtain ⟨n1, hn1⟩ : ∃ n1, n1 = d + 1 := ⟨_, rfl⟩
        have HN1 := hid hn1
        have HTI : Hid (∀ (k : Nat) (W : World) (a : Option Addr) (c : Nat), k ≤ v → LstR W.heap.size W a c (tbs p rows drawn k) → InR W a c (tbs p rows drawn k)) := fun k W a c hk hl =>
          ⟨by rw [tbs_len]; exact HR.out.len, fun j hj => by
            rw [HTW.out.len (by omega) j hj]
            have := pow_12 (v := drawn.length - k) (by omega)
            omega, fun j hj => by rw [tbs_len] at hj; exact tbs_fits h3 hm HR.out.fit k j hj, hl⟩
        have HRD : Hid (∀ (k : Nat) (W : World) (a : Option Addr) (c : Nat), k < v → Below w.heap.size w W → LstR W.heap.size W a c (tbs p rows drawn k) → Calls Tryd.prog 35 #[.pointer (some ⟨b, 0, none⟩), .slice a d c] W fun e w' => e = .returned (.slice (some ⟨W.heap.size, 0, none⟩) n1 n1) ∧ ArrI w' W.heap.size 3 (d + 1) (zat (R k)) ∧ Below W.heap.size W w') := fun k W a c hk hb hl => by
          have := round_any p b c (2 ^ (drawn.length - k)) a (tbs p rows drawn k) W (HF.out.below hb).toInF (HTI.out k W a c (by omega) hl) (by rw [tbs_len]; omega) (HTW.out.len (by omega)) (by have := pow_12 (v := drawn.length - k) (by omega); omega)
          rw [tbs_len, ← hd, ← hn1] at this
          rw [hRR, ← hn1]
          exact this
        have HFX : Hid (∀ (k : Nat) (W : World) (a : Option Addr) (c : Nat), k < v → Below w.heap.size w W → LstR W.heap.size W a c (tbs p rows drawn k) → Calls Tryd.prog 36 #[.pointer (some ⟨b, 0, none⟩), .slice a d c, .int .i64 (zat drawn k)] W fun e w' => e = .returned (.slice (some ⟨W.heap.size, 0, none⟩) d d) ∧ TabP (fun g => W.heap.size ≤ g ∧ g < w'.heap.size) w' (some ⟨W.heap.size, 0, none⟩) d (tbs p rows drawn (k + 1)) ∧ Below W.heap.size W w') := fun k W a c hk hb hl => by
          obtain ⟨f1, f2⟩ := HD.out.fit.all k
          have := allfixed_any p b c a (tbs p rows drawn k) (zat drawn k) W (HF.out.below hb).toInF (HTI.out k W a c (by omega) hl) f1 f2
          rw [tbs_len, ← hd] at this
          exact this
        have HAC : Hid (∀ (W : World) (a : Option Addr) (c : Nat), LstR W.heap.size W a c (tbs p rows drawn v) → Calls Tryd.prog 37 #[.slice a d c, .int .i64 0] W fun e w' => e = .returned (.slice (some ⟨W.heap.size, 0, none⟩) d d) ∧ ArrI w' W.heap.size 3 d (fun k => zat (rat (tbs p rows drawn v) k) 0) ∧ Below W.heap.size W w') := fun W a c hl => by
          have := across_any c 0 a (tbs p rows drawn v) W (by rw [tbs_len]; omega) (by omega) (fun k hk => by rw [HTW.out.len (by omega) k hk]; exact Nat.pow_pos (by decide)) hl
          rw [tbs_len, ← hd] at this
          exact this
        obtain ⟨G, hG⟩ : ∃ G : Nat → Int, G = fun k => zat (rat (tbs p rows drawn v) k) 0 := ⟨_, rfl⟩
        rw [← hG] at HAC
        have HGF : Hid (∀ k, k < d → -9223372036854775808 ≤ G k ∧ G k ≤ 9223372036854775807) := fun k hk => by
          rw [hG]
          exact (tbs_fits h3 hm HR.out.fit v k (by omega)).all 0
        obtain ⟨F, hFF⟩ : ∃ F : Nat → Int, F = fun k => G k % (p : Int) := ⟨_, rfl⟩
        have HFE : Hid (mkF p rows drawn = ls F d) := by unfold Hid mkF; rw [if_pos hz, hFF, hG, ← hd, hvd]
        have HFK : Hid (∀ k, F k = G k % (p : Int)) := fun k => by rw [hFF]
        have HRE : Hid (∀ j, j < v → rat (mkR p rows drawn) j = R j) := fun j hj => by rw [mkR_rat hz (by omega), hRR]
        clear hd hvd hz hc0 hn1 hRR hG hFF e2 e3 e5 hov HTW
        generalize 2 ^ v = N at *
        go_enter Tryd.func9, Tryd.ntmps9
        go_wp2_with fail
        generalize w.alloc (.cells #[.slice none 0 0, .slice none 0 0] 29) = W0 at *
        refine (HAT.out W0 HB0.out).mono ?_
        rintro e w1 ⟨rfl, hb1⟩
        have HR1 := hid (HR0.out.of_block (hb1.block _ HR0.out.lt))
        have HB1 : Hid (Below w.heap.size w w1) := HB0.out.trans (hb1.mono HB0.out.size)
        have hcc := HC0.out w1 HB1.out
        clear hb1 HR0 HB0 HAT
        go_wp2_with fail
        refine (HV.out w1 HB1.out).mono ?_
        rintro e w2 ⟨rfl, rfl⟩
        go_wp2_with fail
        refine (HPL.out w2 HB1.out).mono ?_
        rintro e w3 ⟨rfl, rfl⟩
        clear HV HPL HC0 hcc
        have HBX : Hid (Below w3.heap.size w3 (w3.alloc (.cells #[.slice none 0 0, .slice none 0 0] 29))) := (Below.refl _ _).alloc (Nat.le_refl _) _
        have HOX := hid (dub_new w3 29 (.slice none 0 0) (.slice none 0 0))
        have HRX := hid (HR1.out.of_block (HBX.out.block _ HR1.out.lt))
        have hO1 : w.heap.size < w3.heap.size := HR1.out.lt
        have hzX : (w3.alloc (.cells #[.slice none 0 0, .slice none 0 0] 29)).heap.size = w3.heap.size + 1 := by simp
        have HMK : Hid (MkO d R w w3.heap.size (w3.heap.size + 1) 0 none 0 (w3.alloc (.cells #[.slice none 0 0, .slice none 0 0] 29))) :=
          ⟨HRX.out, HOX.out, HB1.out.trans (HBX.out.mono HB1.out.size), ⟨[], World.ownsRow_nil _ _ _ _, fun j hj => by omega⟩, hO1, Nat.lt_succ_self _, by omega⟩
        have HZX := hid hzX
        clear hzX HR1 HBX HOX HRX HB1
        go_wp2_with fail
        generalize w3.alloc (.cells #[.slice none 0 0, .slice none 0 0] 29) = W4 at *
        generalize w3.heap.size = O at *
        go_loopw [1, 36] (fun tv iv wr => ∃ (k cr ct : Nat) (ar at' : Option Addr), k ≤ v ∧ iv = .int .i64 k ∧ tv = .slice at' d ct ∧ Hid (MkO d R w O (O + 1) k ar cr wr ∧ ∃ nT, O + 1 ≤ nT ∧ (∀ g, (Value.slice ar k cr).ownBlock = some g → g < nT) ∧ TabP (fun g => g < w.heap.size ∨ (nT ≤ g ∧ g < wr.heap.size)) wr at' ct (tbs p rows drawn k))) (fun _ iv _ => v - (intOf iv).toNat)
        case atStart =>
          refine ⟨0, 0, c1, none, some ⟨b0, o0, none⟩, by omega, rfl, rfl, HMK.out, O + 1, Nat.le_refl _, (fun g hg => by cases hg), ?_⟩
          exact ((TabP.of_lst HR.out.lst).keep (fun g hg => HMK.out.below.block g hg)).imp (fun g hg => .inl hg)
        case round =>
          obtain ⟨k, cr, ct, ar, at', hk, rfl, rfl, hI⟩ := hrel
          have hOl : O < wr.heap.size := hI.out.1.obj.lt
          have hwl : w.heap.size ≤ wr.heap.size := hI.out.1.below.size
          by_cases hlt : k < v
          · have hlt2 : (k : Int) < (v : Int) := by omega
            have hks : IntKind.i64.wrap ((k : Int) + 1) = (k : Int) + 1 := by rw [IntKind.wrap_i64]; omega
            obtain ⟨bd, od, rfl, hbd, hxd⟩ := HD.out.lst.row k (by rw [HVD.out]; exact hlt)
            have xd := (hI.out.1.below.cell (p := ⟨bd, od + k, none⟩) hbd).trans hxd
            have HKe : Hid (∀ W, Below wr.heap.size wr W → W.cell? ⟨O, 0, none⟩ = some (.slice ar k cr)) := fun W h => (h.cell (p := ⟨O, 0, none⟩) hOl).trans (hI.out.1.obj.cell (i := 0) (by omega))
            have HRND : Hid (∀ W, Below wr.heap.size wr W → Calls Tryd.prog 35 #[.pointer (some ⟨b, 0, none⟩), .slice at' d ct] W fun e w' => ∃ ge, e = .returned (.slice (some ⟨ge, 0, none⟩) n1 n1) ∧ Below wr.heap.size wr w' ∧ ∃ a4 c4 w4, (Builtin.append_ #[22, 22] 22 #[.slice ar k cr, .slice (some ⟨w'.heap.size, 0, none⟩) 1 1]).run Tryd.prog (w'.alloc (.cells #[.slice (some ⟨ge, 0, none⟩) n1 n1] 23)) = .ok (.slice a4 (k + 1) c4) w4 ∧ w4.cell? ⟨O, 0, none⟩ = some (.slice ar k cr) ∧ w4.frozen? ⟨O, 0, none⟩ = false ∧ Hid (MkO d R w O (O + 1) (k + 1) a4 c4 (w4.setCell ⟨O, 0, none⟩ (.slice a4 (k + 1) c4)) ∧ LstR (w4.setCell ⟨O, 0, none⟩ (.slice a4 (k + 1) c4)).heap.size (w4.setCell ⟨O, 0, none⟩ (.slice a4 (k + 1) c4)) at' ct (tbs p rows drawn k))) := fun W h => by
              obtain ⟨hM, nT, q1, q2, q3⟩ := hI.out
              have hMW := hM.keep h
              have hbW := hMW.below
              have q3W : TabP (fun g => g < w.heap.size ∨ (nT ≤ g ∧ g < wr.heap.size)) W at' ct (tbs p rows drawn k) := q3.keep (fun g hg => h.block g (by omega))
              have hsW := h.size
              refine (HRD.out k W at' ct hlt hbW (q3W.lst (fun g hg => by omega))).mono ?_
              rintro e w' ⟨rfl, hA, hb'⟩
              have hM' := hMW.keep hb'
              obtain ⟨a4, c4, w4, hr, k1, k2, k3, k4, k5⟩ := hM'.app (by omega) hA (by omega)
              have hs' := hb'.size
              rw [← HN1.out] at hr
              refine ⟨W.heap.size, rfl, h.trans (hb'.mono hsW), a4, c4, w4, hr, k1, k2, k3, ?_⟩
              have q3' : TabP (fun g => g < w.heap.size ∨ (nT ≤ g ∧ g < wr.heap.size)) w' at' ct (tbs p rows drawn k) := q3W.keep (fun g hg => hb'.block g (by omega))
              refine (q3'.keep (fun g hg => k4 g (by omega) (by omega) (fun e => ?_))).lst (fun g hg => by omega)
              have h1 := q2 g e.symm
              have h2 := (hM.blk g e.symm).1
              omega
            have HFXK := hid (fun W h1 h2 => HFX.out k W at' ct hlt h1 h2)
            generalize zat drawn k = dr at *
            clear hI hxd
            go_wp2_with fail
            have hb30 : Below wr.heap.size wr wr.drew := (Below.refl _ _).drew
            refine wp_region_S (C := fun W => Below wr.heap.size wr W) (st := [6, 8]) hmx ?_
            show wpAnyS _ _ _ _ _ _ 9 (Array.replicate 9 false) _ _
            refine wpAnyS_pure (i := 0) (v := .pointer (some ⟨O, 0, none⟩)) rfl (by kernel_rfl) (by kernel_rfl) (by kernel_rfl) (by kernel_rfl) (fun _ _ _ h => h) (Or.inl ⟨by rfl, fun W _ => ?_⟩) (fun _ => hb30) ?_
            · go_simp
            refine wpAnyS_take (i := 1) (v := .slice ar k cr) rfl (by kernel_rfl) (by kernel_rfl) (by kernel_rfl) (by kernel_rfl) (by kernel_rfl) (by kernel_rfl) (fun _ _ _ h => h) (Or.inl ⟨by rfl, fun W hC => ?_⟩) hb30 ?_
            · have q0 := HKe.out W hC
              go_simp
            refine wpAnyS_pure (i := 2) (v := .pointer (some ⟨b, 0, none⟩)) rfl (by kernel_rfl) (by kernel_rfl) (by kernel_rfl) (by kernel_rfl) (fun _ _ _ h => h) (Or.inl ⟨by rfl, fun W _ => ?_⟩) (fun _ => hb30) ?_
            · go_simp
            refine wpAnyS_pure (i := 3) (v := .slice at' d ct) rfl (by kernel_rfl) (by kernel_rfl) (by kernel_rfl) (by kernel_rfl) (fun _ _ _ h => h) (Or.inl ⟨by rfl, fun W _ => ?_⟩) (fun _ => hb30) ?_
            · go_simp
            refine wpAnyS_one (i := 4) (by kernel_rfl) ?_
            refine wpOp_step rfl (fun K' hK' => ?_)
            rw [if_pos (by rfl)]
            go_simp
            refine (HRND.out _ hb30).mono ?_
            rintro e w7 ⟨ge, rfl, hb7, a4, c4, w8, hrun, hco, hfo, HE⟩
            refine hK' _ _ ⟨fun _ => hb7, ?_⟩
            clear hK' K'
            refine wpAnyS_one (i := 5) (by kernel_rfl) ?_
            refine wpOp_step rfl (fun K' hK' => ?_)
            rw [if_pos (by rfl)]
            go_simp
            refine hK' _ _ ⟨fun _ => hb7.alloc hb7.size _, ?_⟩
            clear hK' K'
            refine wpAnyS_one (i := 6) (by kernel_rfl) ?_
            refine wpOp_step rfl (fun K' hK' => ?_)
            rw [if_pos (by rfl)]
            refine wp_append_runb _ _ _ _ rfl rfl _ _ _ _ hrun rfl rfl ?_
            refine hK' _ _ ⟨fun h => absurd (h 6 (by simp)) (by decide), ?_⟩
            clear hK' K'
            refine wpAnyS_one (i := 7) (by kernel_rfl) ?_
            refine wpOp_step rfl (fun K' hK' => ?_)
            rw [if_pos (by rfl)]
            go_simp
            refine hK' _ _ ⟨fun h => absurd (h 6 (by simp)) (by decide), ?_⟩
            clear hK' K'
            refine wpAnyS_one (i := 8) (by kernel_rfl) ?_
            refine wpOp_step rfl (fun K' hK' => ?_)
            rw [if_pos (by rfl)]
            go_simp
            refine hK' _ _ ⟨fun h => absurd (h 6 (by simp)) (by decide), wpAnyS_done (by kernel_rfl) ?_ _⟩
            clear hK' K' hrun hco hfo hb7 hb30 HKe HRND
            generalize w8.setCell ⟨O, 0, none⟩ (.slice a4 (k + 1) c4) = V at *
            go_wp2_with fail
            refine (HFXK.out V HE.out.1.below HE.out.2).mono ?_
            rintro e w9 ⟨rfl, hT9, hb9⟩
            have HI9 : Hid (MkO d R w O (O + 1) (k + 1) a4 c4 w9 ∧ ∃ nT, O + 1 ≤ nT ∧ (∀ g, (Value.slice a4 (k + 1) c4).ownBlock = some g → g < nT) ∧ TabP (fun g => g < w.heap.size ∨ (nT ≤ g ∧ g < w9.heap.size)) w9 (some ⟨V.heap.size, 0, none⟩) d (tbs p rows drawn (k + 1))) :=
              ⟨HE.out.1.keep hb9, V.heap.size, HE.out.1.hs, fun g hg => (HE.out.1.blk g hg).2, hT9.imp (fun g hg => .inr hg)⟩
            clear hT9 hb9 HE HFXK
            go_wp2_with fail
            go_roundw
            case rel => exact ⟨k + 1, c4, d, a4, some ⟨V.heap.size, 0, none⟩, by omega, by go_num, rfl, HI9⟩
            case measure => simp [intOf]; omega
          · obtain rfl : k = v := by omega
            have hlt2 : ¬ (k : Int) < (k : Int) := by omega
            have HLT : Hid (LstR wr.heap.size wr at' ct (tbs p rows drawn k)) := by
              obtain ⟨hM, nT, q1, q2, q3⟩ := hI.out
              exact q3.lst (fun g hg => by omega)
            have HMO := hid hI.out.1
            clear hI
            go_wp2_with fail
            refine (HAC.out wr at' ct HLT.out).mono ?_
            rintro e w5 ⟨rfl, hA5, hb5⟩
            have HMP : Hid (MkP d k (mkR p rows drawn) G F w O (O + 1) w5.heap.size wr.heap.size 0 ar none cr 0 w5) := (HMO.out.keep hb5).next (by rw [mkR_len HZ.out, HVD.out]) HRE.out HRL.out hA5 (by have := HMO.out.hs; omega)
            clear hA5 hb5 HMO HLT
            generalize wr.heap.size = ac at *
            generalize w5.heap.size = n2 at *
            go_wp2_with fail
            go_loopw [56] (fun iv wq => ∃ (j cf : Nat) (af : Option Addr), j ≤ d ∧ iv = .int .i64 j ∧ Hid (MkP d k (mkR p rows drawn) G F w O (O + 1) n2 ac j ar af cr cf wq)) (fun iv _ => d - (intOf iv).toNat)
            case atStart => exact ⟨0, 0, none, by omega, rfl, HMP⟩
            case round =>
              obtain ⟨j, cf, af, hj, rfl, hJ⟩ := hrel
              by_cases hjt : j < d
              · have hjt2 : (j : Int) < (d : Int) := by omega
                have hjw : IntKind.i64.wrap ((j : Int) + 1) = (j : Int) + 1 := by rw [IntKind.wrap_i64]; omega
                have x1 := hJ.out.lst.cell hjt
                obtain ⟨f1, f2⟩ := HGF.out j hjt
                have HKe : Hid (∀ W, Below wr.heap.size wr W → W.cell? ⟨O, 1, none⟩ = some (.slice af j cf)) := fun W h => (h.cell (p := ⟨O, 1, none⟩) hJ.out.obj.lt).trans (hJ.out.obj.cell (i := 1) (by omega))
                have HOF : Hid (∀ W, Below wr.heap.size wr W → Calls Tryd.prog 38 #[.pointer (some ⟨b, 0, none⟩), .int .i64 (G j)] W fun e w' => e = .returned (.int .i64 (F j)) ∧ Below wr.heap.size wr w' ∧ ∃ a4 c4 w4, (Builtin.append_ #[23, 23] 23 #[.slice af j cf, .slice (some ⟨w'.heap.size, 0, none⟩) 1 1]).run Tryd.prog (w'.alloc (.cells #[.int .i64 (F j)] 3)) = .ok (.slice a4 (j + 1) c4) w4 ∧ w4.cell? ⟨O, 1, none⟩ = some (.slice af j cf) ∧ w4.frozen? ⟨O, 1, none⟩ = false ∧ Hid (MkP d k (mkR p rows drawn) G F w O (O + 1) n2 ac (j + 1) ar a4 cr c4 (w4.setCell ⟨O, 1, none⟩ (.slice a4 (j + 1) c4)))) := fun W h => by
                  have hPW := hJ.out.keep h
                  refine (of_any p b (G j) W h3 hm (HF.out.below hPW.below).cell f1 f2).mono ?_
                  rintro e w' ⟨rfl, rfl⟩
                  refine ⟨by rw [HFK.out], h, ?_⟩
                  exact hPW.app (by omega)
                generalize G j = x at *
                generalize F j = y at *
                clear hJ f1 f2
                go_wp2_with fail
                have hb30 : Below wr.heap.size wr wr.drew := (Below.refl _ _).drew
                refine wp_region_S (C := fun W => Below wr.heap.size wr W) (st := [6, 8]) hmx ?_
                show wpAnyS _ _ _ _ _ _ 9 (Array.replicate 9 false) _ _
                refine wpAnyS_pure (i := 0) (v := .pointer (some ⟨O, 1, none⟩)) rfl (by kernel_rfl) (by kernel_rfl) (by kernel_rfl) (by kernel_rfl) (fun _ _ _ h => h) (Or.inl ⟨by rfl, fun W _ => ?_⟩) (fun _ => hb30) ?_
                · go_simp
                refine wpAnyS_take (i := 1) (v := .slice af j cf) rfl (by kernel_rfl) (by kernel_rfl) (by kernel_rfl) (by kernel_rfl) (by kernel_rfl) (by kernel_rfl) (fun _ _ _ h => h) (Or.inl ⟨by rfl, fun W hC => ?_⟩) hb30 ?_
                · have q0 := HKe.out W hC
                  go_simp
                refine wpAnyS_pure (i := 2) (v := .pointer (some ⟨b, 0, none⟩)) rfl (by kernel_rfl) (by kernel_rfl) (by kernel_rfl) (by kernel_rfl) (fun _ _ _ h => h) (Or.inl ⟨by rfl, fun W _ => ?_⟩) (fun _ => hb30) ?_
                · go_simp
                refine wpAnyS_pure (i := 3) (v := .int .i64 x) rfl (by kernel_rfl) (by kernel_rfl) (by kernel_rfl) (by kernel_rfl) (fun _ _ _ h => h) (Or.inl ⟨by rfl, fun W _ => ?_⟩) (fun _ => hb30) ?_
                · go_simp
                refine wpAnyS_one (i := 4) (by kernel_rfl) ?_
                refine wpOp_step rfl (fun K' hK' => ?_)
                rw [if_pos (by rfl)]
                go_simp
                refine (HOF.out _ hb30).mono ?_
                rintro e w7 ⟨rfl, hb7, a4, c4, w8, hrun, hco, hfo, HE⟩
                refine hK' _ _ ⟨fun _ => hb7, ?_⟩
                clear hK' K'
                refine wpAnyS_one (i := 5) (by kernel_rfl) ?_
                refine wpOp_step rfl (fun K' hK' => ?_)
                rw [if_pos (by rfl)]
                go_simp
                refine hK' _ _ ⟨fun _ => hb7.alloc hb7.size _, ?_⟩
                clear hK' K'
                refine wpAnyS_one (i := 6) (by kernel_rfl) ?_
                refine wpOp_step rfl (fun K' hK' => ?_)
                rw [if_pos (by rfl)]
                refine wp_append_runb _ _ _ _ rfl rfl _ _ _ _ hrun rfl rfl ?_
                refine hK' _ _ ⟨fun h => absurd (h 6 (by simp)) (by decide), ?_⟩
                clear hK' K'
                refine wpAnyS_one (i := 7) (by kernel_rfl) ?_
                refine wpOp_step rfl (fun K' hK' => ?_)
                rw [if_pos (by rfl)]
                go_simp
                refine hK' _ _ ⟨fun h => absurd (h 6 (by simp)) (by decide), ?_⟩
                clear hK' K'
                refine wpAnyS_one (i := 8) (by kernel_rfl) ?_
                refine wpOp_step rfl (fun K' hK' => ?_)
                rw [if_pos (by rfl)]
                go_simp
                refine hK' _ _ ⟨fun h => absurd (h 6 (by simp)) (by decide), wpAnyS_done (by kernel_rfl) ?_ _⟩
                clear hK' K' hrun hco hfo hb7 hb30 HKe HOF
                go_wp2_with fail
                go_roundw
                case rel => exact ⟨j + 1, c4, a4, by omega, by go_num, HE⟩
                case measure => simp [intOf]; omega
              · obtain rfl : j = d := by omega
                have hjt2 : ¬ (j : Int) < (j : Int) := by omega
                have k0 := hJ.out.obj.cell (i := 0) (by omega)
                have k1 := hJ.out.obj.cell (i := 1) (by omega)
                have r0 := hJ.out.res.cell (i := 0) (by omega)
                have r1 := hJ.out.res.cell (i := 1) (by omega)
                have y0 := hJ.out.res.frozen 0
                have y1 := hJ.out.res.frozen 1
                simp only [dub] at k0 k1 r0 r1
                have HMQ := hJ
                clear hJ
                go_wp2_with fail
                have HFI := hid (dub_arr (dub_set1 (dub_set0 HMQ.out.res (.slice ar k cr)) (.slice af j cf)))
                refine bodyPost_ret (results_ctb rfl _ _ w.heap.size 29 _ (0, 0) _ rfl HFI.out Tryd.underlying29 rfl (by kernel_rfl)) rfl ?_
                have hO' := HMQ.out.hO
                have hn' := HMQ.out.hn
                have hs' := HMQ.out.hs
                have hac' := HMQ.out.hac
                have hbk : ∀ g, g ≠ w.heap.size → ((wr.setCell ⟨w.heap.size, 0, none⟩ (.slice ar k cr)).setCell ⟨w.heap.size, 1, none⟩ (.slice af j cf)).heap[g]? = wr.heap[g]? := fun g hg => (Below.heap_setCell _ _ _ _ hg).trans (Below.heap_setCell _ _ _ _ hg)
                have hsz : ((wr.setCell ⟨w.heap.size, 0, none⟩ (.slice ar k cr)).setCell ⟨w.heap.size, 1, none⟩ (.slice af j cf)).heap.size = wr.heap.size := by simp [World.setCell]
                refine ⟨ar, cr, af, cf, rfl, ?_, ?_, (HMQ.out.below.setCell (p := ⟨w.heap.size, 0, none⟩) (Nat.le_refl _) _).setCell (p := ⟨w.heap.size, 1, none⟩) (Nat.le_refl _) _⟩
                · exact (HMQ.out.rds.keep (fun g hg => hbk g (by omega))).lst (fun g hg => by omega)
                · have how := owns_keep HMQ.out.own (w' := (wr.setCell ⟨w.heap.size, 0, none⟩ (.slice ar k cr)).setCell ⟨w.heap.size, 1, none⟩ (.slice af j cf)) (fun g hg => hbk g (by have := (HMQ.out.own.lt g hg).1; omega))
                  obtain ⟨a5, c5, e5, h5⟩ := lst_of_owns (zs := ls F j) (by rw [ls_len]; exact how)
                  rw [ls_len] at e5
                  injection e5 with q1 q2 q3
                  rw [← q1, ← q3] at h5
                  rw [HFE.out]
                  exact h5
      · have hz : mke p rows drawn = 3 := by unfold mke; rw [if_pos (by omega), if_neg hp]
        rw [mkR_no (by omega), mkF_no (by omega), hz, errz_some (by decide), hvd]
        rw [decide_eq_false (show ¬ (rows.length : Int) < (p : Int) by omega)] at HPL
        generalize rows.length = n at *
        generalize 2 ^ v = N at *
        clear hz hp hvd hc0 e1 e2 e3 e4 e5 hov
        go_enter Tryd.func9, Tryd.ntmps9
        go_wp2_with fail
        generalize w.alloc (.cells #[.slice none 0 0, .slice none 0 0] 29) = W0 at *
        refine (HAT.out W0 HB0.out).mono ?_
        rintro e w1 ⟨rfl, hb1⟩
        have HR1 := hid (HR0.out.of_block (hb1.block _ HR0.out.lt))
        have HB1 : Hid (Below w.heap.size w w1) := HB0.out.trans (hb1.mono HB0.out.size)
        have hcc := HC0.out w1 HB1.out
        clear hb1 HR0 HB0 HAT
        go_wp2_with fail
        refine (HV.out w1 HB1.out).mono ?_
        rintro e w2 ⟨rfl, rfl⟩
        go_wp2_with fail
        refine (HPL.out w2 HB1.out).mono ?_
        rintro e w3 ⟨rfl, rfl⟩
        have r0 := HR1.out.cell (i := 0) (by omega)
        have r1 := HR1.out.cell (i := 1) (by omega)
        have y0 := HR1.out.frozen 0
        have y1 := HR1.out.frozen 1
        simp only [dub] at r0 r1
        go_wp2_with fail
        have HFI := hid (dub_arr (dub_set1 (dub_set0 HR1.out (.slice none 0 0)) (.slice none 0 0)))
        refine bodyPost_ret (results_ctb rfl _ _ w.heap.size 29 _ (0, 0) _ rfl HFI.out Tryd.underlying29 rfl (by kernel_rfl)) rfl ?_
        exact ⟨none, 0, none, 0, rfl, lstR_none _ _, Lst.none _ _, (HB1.out.setCell (p := ⟨w.heap.size, 0, none⟩) (Nat.le_refl _) _).setCell (p := ⟨w.heap.size, 1, none⟩) (Nat.le_refl _) _⟩
    · have hz : mke p rows drawn = 2 := by unfold mke; rw [if_neg (by omega)]
      have u1 : ((drawn.length : Int) != (v : Int)) = true := by simp; omega
      rw [mkR_no (by omega), mkF_no (by omega), hz, errz_some (by decide)]
      generalize drawn.length = m at *
      generalize rows.length = n at *
      generalize 2 ^ v = N at *
      clear hz hvd hc0 e1 e2 e3 e4 e5 hov HPL
      go_enter Tryd.func9, Tryd.ntmps9
      go_wp2_with fail
      generalize w.alloc (.cells #[.slice none 0 0, .slice none 0 0] 29) = W0 at *
      refine (HAT.out W0 HB0.out).mono ?_
      rintro e w1 ⟨rfl, hb1⟩
      have HR1 := hid (HR0.out.of_block (hb1.block _ HR0.out.lt))
      have HB1 : Hid (Below w.heap.size w w1) := HB0.out.trans (hb1.mono HB0.out.size)
      have hcc := HC0.out w1 HB1.out
      clear hb1 HR0 HB0 HAT
      go_wp2_with fail
      refine (HV.out w1 HB1.out).mono ?_
      rintro e w2 ⟨rfl, rfl⟩
      have r0 := HR1.out.cell (i := 0) (by omega)
      have r1 := HR1.out.cell (i := 1) (by omega)
      have y0 := HR1.out.frozen 0
      have y1 := HR1.out.frozen 1
      simp only [dub] at r0 r1
      go_wp2_with fail
      have HFI := hid (dub_arr (dub_set1 (dub_set0 HR1.out (.slice none 0 0)) (.slice none 0 0)))
      refine bodyPost_ret (results_ctb rfl _ _ w.heap.size 29 _ (0, 0) _ rfl HFI.out Tryd.underlying29 rfl (by kernel_rfl)) rfl ?_
      exact ⟨none, 0, none, 0, rfl, lstR_none _ _, Lst.none _ _, (HB1.out.setCell (p := ⟨w.heap.size, 0, none⟩) (Nat.le_refl _) _).setCell (p := ⟨w.heap.size, 1, none⟩) (Nat.le_refl _) _⟩
  · have hz : mke p rows drawn = 2 := by unfold mke; rw [if_neg (by omega)]
    rw [mkR_no (by omega), mkF_no (by omega), hz, errz_some (by decide)]
    rw [decide_eq_false hov] at HAT
    generalize drawn.length = m at *
    generalize rows.length = n at *
    clear hz hov
    go_enter Tryd.func9, Tryd.ntmps9
    go_wp2_with fail
    generalize w.alloc (.cells #[.slice none 0 0, .slice none 0 0] 29) = W0 at *
    refine (HAT.out W0 HB0.out).mono ?_
    rintro e w1 ⟨rfl, hb1⟩
    have HR1 := hid (HR0.out.of_block (hb1.block _ HR0.out.lt))
    have HB1 : Hid (Below w.heap.size w w1) := HB0.out.trans (hb1.mono HB0.out.size)
    clear hb1 HR0 HB0 HAT
    have r0 := HR1.out.cell (i := 0) (by omega)
    have r1 := HR1.out.cell (i := 1) (by omega)
    have y0 := HR1.out.frozen 0
    have y1 := HR1.out.frozen 1
    simp only [dub] at r0 r1
    go_wp2_with fail
    have HFI := hid (dub_arr (dub_set1 (dub_set0 HR1.out (.slice none 0 0)) (.slice none 0 0)))
    refine bodyPost_ret (results_ctb rfl _ _ w.heap.size 29 _ (0, 0) _ rfl HFI.out Tryd.underlying29 rfl (by kernel_rfl)) rfl ?_
    exact ⟨none, 0, none, 0, rfl, lstR_none _ _, Lst.none _ _, (HB1.out.setCell (p := ⟨w.heap.size, 0, none⟩) (Nat.le_refl _) _).setCell (p := ⟨w.heap.size, 1, none⟩) (Nat.le_refl _) _⟩

end Go.Proofs.YtecaifjbmfianagDoor
