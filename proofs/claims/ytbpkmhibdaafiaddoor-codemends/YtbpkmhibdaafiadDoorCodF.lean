/- Package code: locator, likeliest. -/
import Derived.Test.YtbpkmhibdaafiadDoorCodE
import Derived.Test.YtbpkmhibdaafiadDoorCodB
import Derived.Test.YtbpkmhibdaafiadDoorHeldS
namespace Go.Proofs.YtbpkmhibdaafiadDoor
open Go.RowKit

theorem rowB_drop {w : World} {g n0 : Nat} {A : List Int} (h : RowB n0 w (some ⟨g, 0, none⟩) A) (m : Nat) : RowB n0 w (some ⟨g, m, none⟩) (A.drop m) := fun k hk => by
  rw [List.length_drop] at hk
  obtain ⟨b, o, h1, h2, h3⟩ := h (m + k) (by omega)
  injection h1 with h1
  injection h1 with e1 e2 _
  subst e1; subst e2
  refine ⟨g, m, rfl, h2, ?_⟩
  rw [Nat.zero_add] at h3
  rw [h3]
  simp [zat, List.getElem?_drop]

set_option maxRecDepth 100000 in
set_option maxHeartbeats 2000000 in
theorem loc_any {w : World} {p b d n : Nat} {r s : Int} (D : DO w p b d n r s) (g cap sp : Nat) (A : List Int) (hA : Pol.Can p A) (hAl : A.length ≤ n) (hsp : sp ≤ n) (hl : Lst w.heap.size w (some ⟨g, 0, none⟩) cap A) :
    Calls Tryd.prog 46 #[.pointer (some ⟨d, 0, none⟩), .slice (some ⟨g, 0, none⟩) A.length cap, .int .i64 sp] w fun e w' => ∃ (h nx bf t : List Int) (at_ : Option Addr) (ct : Nat),
      e = .returned (.slice at_ t.length ct) ∧ Cod.LI p sp (Pol.cf (A.drop (n - sp))) h nx bf t ∧ 2 * nx.length < sp + 2 ∧ RowB w'.heap.size w' at_ t ∧ Below w.heap.size w w' := by
  obtain ⟨hn0, hn⟩ := D.pos
  have HD := hid D
  have h3 := D.h3
  have hm := D.hm
  have hbl := D.blt
  have hdl := D.dlt
  have HF := hid (dfield_any d b n r s w D.da)
  have HS := hid (fun (W : World) (h : Below w.heap.size w W) => size_any d b n r s W (D.below h hbl hdl).da)
  have HP : Hid (∀ W : World, Calls Tryd.prog 62 #[.int .i64 sp] W fun e w' => e = .returned (.slice (some ⟨W.heap.size, 0, none⟩) (sp + 1) (sp + 1)) ∧ Cells W.heap.size 0 (sp + 1) (zat (Cod.pw sp)) w' ∧ Below W.heap.size W w' ∧ w'.heap.size = W.heap.size + 1) := fun W => power_any sp W (by omega)
  have HL := hid hl
  have hroom := hl.room
  have HCA := hid hA
  obtain ⟨m, hmd⟩ : ∃ m, m = min (n - sp) A.length := ⟨_, rfl⟩
  have HDR : Hid (A.drop (n - sp) = A.drop m) := by
    unfold Hid
    rw [hmd]
    by_cases e : n - sp ≤ A.length
    · rw [Nat.min_eq_left e]
    · rw [Nat.min_eq_right (by omega), List.drop_eq_nil_of_le (by omega), List.drop_eq_nil_of_le (by omega)]
  have e1 : min ((n : Int) - (sp : Int)) (A.length : Int) = (m : Int) := by omega
  have hmA : m ≤ A.length := by omega
  have hmA2 : (m : Int) ≤ (A.length : Int) := by omega
  have hdl2 : (A.drop m).length ≤ sp := by rw [List.length_drop]; omega
  have HLI := hid (Cod.LI.start h3 (drop_can hA m) hdl2)
  have HDL := hid (List.length_drop (i := m) (l := A))
  rw [HDR.out]
  clear D hl hA hmd
  have hmx : Tryd.prog.follows .mixedOrders = true := by kernel_rfl
  go_enter Tryd.func46, Tryd.ntmps46
  go_wp2_with fail
  refine HF.out.mono ?_
  rintro e w1 ⟨rfl, rfl⟩
  go_wp2_with fail
  refine wp_region_S (C := fun W => Below w1.heap.size w1 W) (st := []) hmx ?_
  have hC0 : Below w1.heap.size w1 w1.drew := (Below.refl _ _).drew
  show wpAnyS _ _ _ _ _ _ 13 (Array.replicate 13 false) _ _
  refine wpAnyS_pure (i := 0) (v := .int .i64 sp) rfl (by kernel_rfl) (by kernel_rfl) (by kernel_rfl) (by kernel_rfl) (fun _ _ _ h => h) (Or.inl ⟨by rfl, fun W _ => ?_⟩) (fun _ => hC0) ?_
  · go_simp
  refine wpAnyS_pure (i := 2) (v := .slice (some ⟨g, 0, none⟩) A.length cap) rfl (by kernel_rfl) (by kernel_rfl) (by kernel_rfl) (by kernel_rfl) (fun _ _ _ h => h) (Or.inl ⟨by rfl, fun W _ => ?_⟩) (fun _ => hC0) ?_
  · go_simp
  refine wpAnyS_pure (i := 3) (v := .pointer (some ⟨d, 0, none⟩)) rfl (by kernel_rfl) (by kernel_rfl) (by kernel_rfl) (by kernel_rfl) (fun _ _ _ h => h) (Or.inl ⟨by rfl, fun W _ => ?_⟩) (fun _ => hC0) ?_
  · go_simp
  refine wpAnyS_pure (i := 5) (v := .int .i64 sp) rfl (by kernel_rfl) (by kernel_rfl) (by kernel_rfl) (by kernel_rfl) (fun _ _ _ h => h) (Or.inl ⟨by rfl, fun W _ => ?_⟩) (fun _ => hC0) ?_
  · go_simp
  refine wpAnyS_pure (i := 7) (v := .slice (some ⟨g, 0, none⟩) A.length cap) rfl (by kernel_rfl) (by kernel_rfl) (by kernel_rfl) (by kernel_rfl) (fun _ _ _ h => h) (Or.inl ⟨by rfl, fun W _ => ?_⟩) (fun _ => hC0) ?_
  · go_simp
  refine wpAnyS_pure (i := 8) (v := .int .i64 A.length) rfl (by kernel_rfl) (by kernel_rfl) (by kernel_rfl) (by kernel_rfl) (fun _ _ _ h => h) (Or.inl ⟨by rfl, fun W _ => ?_⟩) (fun _ => hC0) ?_
  · go_simp
  refine wpAnyS_one (i := 1) (by kernel_rfl) ?_
  refine wpOp_step rfl (fun K' hK' => ?_)
  rw [if_pos (by rfl)]
  go_simp
  refine (HP.out _).mono ?_
  rintro e w2 ⟨rfl, hpw, hb2, hs2⟩
  have hC1 : Below w1.heap.size w1 w2 := hC0.trans hb2
  refine hK' _ _ ⟨fun _ => hC1, ?_⟩
  clear hK' K'
  refine wpAnyS_one (i := 4) (by kernel_rfl) ?_
  refine wpOp_step rfl (fun K' hK' => ?_)
  rw [if_pos (by rfl)]
  go_simp
  refine (HS.out _ hC1).mono ?_
  rintro e w3 ⟨rfl, rfl⟩
  refine hK' _ _ ⟨fun _ => hC1, ?_⟩
  clear hK' K'
  refine wpAnyS_pure (i := 6) (v := .int .i64 ((n : Int) - (sp : Int))) rfl (by kernel_rfl) (by kernel_rfl) (by kernel_rfl) (by kernel_rfl) (fun _ _ _ h => h) (Or.inl ⟨by rfl, fun W _ => ?_⟩) (fun _ => hC1) ?_
  · go_simp
    exact Go.IntWalk.i64_in _ (by omega)
  refine wpAnyS_pure (i := 9) (v := .int .i64 m) rfl (by kernel_rfl) (by kernel_rfl) (by kernel_rfl) (by kernel_rfl) (fun _ _ _ h => h) (Or.inl ⟨by rfl, fun W _ => ?_⟩) (fun _ => hC1) ?_
  · go_simp
  refine wpAnyS_pure (i := 10) (v := .slice (some ⟨g, if cap = m then 0 else m, none⟩) (A.length - m) (cap - m)) rfl (by kernel_rfl) (by kernel_rfl) (by kernel_rfl) (by kernel_rfl) (fun _ _ _ h => h) (Or.inl ⟨by rfl, fun W _ => ?_⟩) (fun _ => hC1) ?_
  · go_simp
    split <;> rfl
  refine wpAnyS_pure (i := 11) (v := .slice (some ⟨w1.heap.size, 0, none⟩) (sp + 1) (sp + 1)) rfl (by kernel_rfl) (by kernel_rfl) (by kernel_rfl) (by kernel_rfl) (fun _ _ _ h => h) (Or.inl ⟨by rfl, fun W _ => ?_⟩) (fun _ => hC1) ?_
  · go_simp
  refine wpAnyS_pure (i := 12) (v := .slice (some ⟨g, if cap = m then 0 else m, none⟩) (A.length - m) (cap - m)) rfl (by kernel_rfl) (by kernel_rfl) (by kernel_rfl) (by kernel_rfl) (fun _ _ _ h => h) (Or.inl ⟨by rfl, fun W _ => ?_⟩) (fun _ => hC1) ?_
  · go_simp
  refine wpAnyS_done (by kernel_rfl) ?_ _
  have HPW : Hid (RowB w3.heap.size w3 (some ⟨w1.heap.size, 0, none⟩) (Cod.pw sp)) := hpw.row (by rw [Cod.pw_length]; exact Nat.le_refl _) (fun _ _ => rfl) (by omega)
  have HNX : Hid (RowB w3.heap.size w3 (some ⟨g, if cap = m then 0 else m, none⟩) (A.drop m)) := by
    by_cases hcm : cap = m
    · exact fun j hj => by rw [List.length_drop] at hj; omega
    · rw [if_neg hcm]; exact ((rowB_drop HL.out.row m).below hC1).mono hC1.size
  have HC1 := hid hC1
  have HDR2 := hid HDR.out
  obtain ⟨off, hoff⟩ : ∃ off, off = if cap = m then 0 else m := ⟨_, rfl⟩
  rw [← hoff] at HNX ⊢
  have HPL : Hid ((Cod.pw sp).length = sp + 1) := Cod.pw_length sp
  obtain ⟨AA, hAA⟩ : ∃ AA, AA = Pol.cf (A.drop m) := ⟨_, rfl⟩
  have HAA := hid hAA
  rw [← hAA] at HLI
  rw [← HPL.out, ← HDL.out]
  obtain ⟨PW, hPW⟩ : ∃ PW, PW = Cod.pw sp := ⟨_, rfl⟩
  obtain ⟨NX, hNX⟩ : ∃ NX, NX = A.drop m := ⟨_, rfl⟩
  rw [← hPW] at HLI HPW ⊢
  rw [← hNX] at HLI HNX ⊢
  clear hpw hb2 hs2 hC1 hC0 HP HF HS HDL HPL hoff e1 hmA hmA2 hdl2 hAA hPW hNX hroom HL
  go_wp2_with fail
  go_loopw [8, 9, 10, 11] (fun hv nv bv fv wr => ∃ (h nx bf t : List Int) (ah an ab at_ : Option Addr) (ch cn cb ct : Nat), hv = .slice ah h.length ch ∧ nv = .slice an nx.length cn ∧ bv = .slice ab bf.length cb ∧ fv = .slice at_ t.length ct ∧
      Hid (Cod.LI p sp AA h nx bf t) ∧ Hid (RowB wr.heap.size wr ah h ∧ RowB wr.heap.size wr an nx ∧ RowB wr.heap.size wr ab bf ∧ RowB wr.heap.size wr at_ t) ∧ Hid (Below w1.heap.size w1 wr))
    (fun _ nv _ _ _ => lenOf nv)
  case atStart =>
    have hb4 : Below w3.heap.size w3 ((w3.alloc (.cells #[] 3)).alloc (.cells #[.int .i64 1] 3)) := ((Below.refl w3.heap.size w3).alloc (Nat.le_refl _) _).alloc (by simp) _
    refine ⟨PW, NX, [], [1], _, _, _, _, _, _, 0, 1, rfl, rfl, rfl, rfl, HLI, ⟨(HPW.out.below hb4).mono hb4.size, (HNX.out.below hb4).mono hb4.size, fun j hj => by simp at hj, fun j hj => ?_⟩, HC1.out.trans (hb4.mono HC1.out.size)⟩
    simp at hj
    subst hj
    exact ⟨w3.heap.size + 1, 0, rfl, by simp, by simp [zat]⟩
  case round =>
    obtain ⟨h, nx, bf, t, ah, an, ab, at_, ch, cn, cb, ct, rfl, rfl, rfl, rfl, HI, HRW, hbel⟩ := hrel
    obtain ⟨R1, R2, R3, R4⟩ := HRW.out
    have hdf := HI.out.df
    have hdn := HI.out.dn
    have hdb := HI.out.db
    have hdh := HI.out.dh
    have HDO : Hid (∀ W : World, Below w1.heap.size w1 W → DO W p b d n r s) := fun W h => HD.out.below h hbl hdl
    have hpc := (HDO.out wr hbel.out).hp
    have HDG := hid (deg_any p b nx.length cn (· < wr.heap.size) an (zat nx) wr h3 hm hpc (by omega) (can_fits hm HI.out.cn) R2.f)
    rw [tpn_can (by omega) HI.out.cn] at HDG
    by_cases hc : sp + 2 ≤ 2 * nx.length
    · have e1 : (sp : Int) ≤ 2 * ((nx.length : Int) - 1) := by omega
      have HDV := hid (divide_any p b ch cn ah an h nx wr HD.out.pr h3 hm hpc (by omega) (by omega) (can_fits hm HI.out.ch) (can_fits hm HI.out.cn) R1 R2 (by rw [Pol.trim_id (by omega) HI.out.cn]; omega))
      rw [Pol.trim_id (by omega) HI.out.cn] at HDV
      clear R1 R2 R3 R4 hpc
      go_wp2_with fail
      refine HDG.out.mono ?_
      rintro e w4 ⟨rfl, rfl⟩
      go_wp2_with fail
      refine HDV.out.mono ?_
      rintro e w5 ⟨q, r', aq, ar, cq, cr, rfl, hd, hq, hr, hlq, hlr, hb5⟩
      have HDD := hid hd
      have HBE5 : Hid (Below w1.heap.size w1 w5) := hbel.out.trans (hb5.mono hbel.out.size)
      have HR5 : Hid (RowB w5.heap.size w5 an nx ∧ RowB w5.heap.size w5 ab bf ∧ RowB w5.heap.size w5 at_ t ∧ RowB w5.heap.size w5 aq q ∧ RowB w5.heap.size w5 ar r') :=
        ⟨(HRW.out.2.1.below hb5).mono hb5.size, (HRW.out.2.2.1.below hb5).mono hb5.size, (HRW.out.2.2.2.below hb5).mono hb5.size, hq.row, hr.row⟩
      have hrl := hd.lt
      clear hq hr hb5 HRW hd HDV HDG
      have hpc5 := (HDO.out w5 HBE5.out).hp
      have HPM := hid (pmul_any p b cq ct (· < w5.heap.size) aq at_ q t w5 HD.out.pr h3 hm hpc5 (by omega) (can_fits hm HDD.out.cq) (can_fits hm HI.out.cf) HR5.out.2.2.2.1 HR5.out.2.2.1 (fun _ h => h))
      clear hpc5
      go_wp2_with fail
      refine HPM.out.mono ?_
      rintro e w6 ⟨am, cm, rfl, hrm, _, hb6⟩
      have HCM : Hid (Pol.Can p (Pol.pmul p q t)) := Pol.mk_can (by omega) _ _
      have hml := Pol.pmul_le p q t
      have HBE6 : Hid (Below w1.heap.size w1 w6) := HBE5.out.trans (hb6.mono HBE5.out.size)
      have HR6 : Hid (RowB w6.heap.size w6 an nx ∧ RowB w6.heap.size w6 ab bf ∧ RowB w6.heap.size w6 at_ t ∧ RowB w6.heap.size w6 am (Pol.pmul p q t) ∧ RowB w6.heap.size w6 ar r') :=
        ⟨(HR5.out.1.below hb6).mono hb6.size, (HR5.out.2.1.below hb6).mono hb6.size, (HR5.out.2.2.1.below hb6).mono hb6.size, hrm.row, (HR5.out.2.2.2.2.below hb6).mono hb6.size⟩
      clear hrm hb6 HR5 HPM
      have hpc6 := (HDO.out w6 HBE6.out).hp
      have HPS := hid (psub_any p b cb cm (· < w6.heap.size) ab am bf (Pol.pmul p q t) w6 h3 hm hpc6 (by omega) (by omega) (can_fits hm HI.out.cb) (can_fits hm HCM.out) HR6.out.2.1 HR6.out.2.2.2.1 (fun _ h => h))
      clear hpc6
      go_wp2_with fail
      refine HPS.out.mono ?_
      rintro e w7 ⟨cs, rfl, _, hcs, hb7, hs7⟩
      have HNEW : Hid (Cod.LI p sp AA nx r' t (Pol.psub p bf (Pol.pmul p q t))) := HI.out.step HD.out.pr h3 HDD.out.cq HDD.out.cr HDD.out.lt HDD.out.eq hlq hc
      have HBE7 : Hid (Below w1.heap.size w1 w7) := HBE6.out.trans (hb7.mono HBE6.out.size)
      have HR7 : Hid (RowB w7.heap.size w7 an nx ∧ RowB w7.heap.size w7 ar r' ∧ RowB w7.heap.size w7 at_ t ∧ RowB w7.heap.size w7 (some ⟨w6.heap.size, 0, none⟩) (Pol.psub p bf (Pol.pmul p q t))) :=
        ⟨(HR6.out.1.below hb7).mono hb7.size, (HR6.out.2.2.2.2.below hb7).mono hb7.size, (HR6.out.2.2.1.below hb7).mono hb7.size, hcs.row (Nat.le_refl _) (fun _ _ => rfl) (by omega)⟩
      clear hcs hb7 hs7 HR6 HPS
      go_wp2_with fail
      go_roundw
      case rel => exact ⟨nx, r', t, _, _, _, _, _, _, _, _, _, rfl, rfl, rfl, rfl, HNEW, HR7, HBE7⟩
      case measure => simp only [lenOf]; exact hrl
    · have e1 : ¬ (sp : Int) ≤ 2 * ((nx.length : Int) - 1) := by omega
      have HR4 := hid R4
      clear R1 R2 R3 R4 hpc HRW
      go_wp2_with fail
      refine HDG.out.mono ?_
      rintro e w4 ⟨rfl, rfl⟩
      go_wp2_with fail
      go_ret
      exact ⟨h, nx, bf, t, at_, ct, rfl, by rw [← HAA.out]; exact HI.out, by omega, HR4.out, hbel.out⟩

end Go.Proofs.YtbpkmhibdaafiadDoor
