/- Package code: likeliest, Decode. -/
import Derived.Test.YtbpkmhibdaafiadDoorCodF
namespace Go.Proofs.YtbpkmhibdaafiadDoor
open Go.RowKit

/-- where a polynomial is not what the word is, but for the places that are gone -/
def off (p n : Nat) (r s : Int) (G : Nat → Bool) (ws g : List Int) : Nat := Cod.cnt (wq p G (fun j => evz p g (Dom.pt p s r j)) ws) n

theorem pt_fits {p : Nat} (h3 : 3 ≤ p) (hm : p ≤ 2147483647) (r s : Int) (G : Nat → Bool) (n : Nat) : Fits (pk G (Dom.pt p s r) n) := fun j hj => by
  obtain ⟨i, _, _, h⟩ := pk_at G (Dom.pt p s r) n j hj
  rw [h]
  have := emod_bounds (s * r ^ i) p h3
  unfold Dom.pt
  omega

set_option maxRecDepth 100000 in
set_option maxHeartbeats 2000000 in
theorem like_any {w : World} {p b d n : Nat} {r s : Int} (D : DO w p b d n r s) (a1 a2 : Option Addr) (c1 c2 sp k : Nat) (G : Nat → Bool) (ws : List Int) (hsp : sp + k + Cod.cnt G n = n) (hw : ws.length = n) (hf1 : Fits ws) (hr1 : RowB w.heap.size w a1 ws) (hr2 : RowB w.heap.size w a2 (pk G (Dom.pt p s r) n)) :
    Calls Tryd.prog 31 #[.pointer (some ⟨d, 0, none⟩), .slice a1 n c1, .slice a2 (pk G (Dom.pt p s r) n).length c2, .int .i64 sp] w fun e w' => ∃ (q : List Int) (aq : Option Addr) (cq : Nat),
      e = .returned (.slice aq q.length cq) ∧ Pol.Can p q ∧ q.length ≤ 131072 ∧ (∀ g : List Int, Pol.Can p g → g.length ≤ k → 2 * off p n r s G ws g ≤ sp → q = g) ∧ Lst w'.heap.size w' aq cq q ∧ Below w.heap.size w w' := by
  obtain ⟨hn0, hn⟩ := D.pos
  have HD := hid D
  have h3 := D.h3
  have hm := D.hm
  have hbl := D.blt
  have hdl := D.dlt
  have hpl := pk_len G (Dom.pt p s r) n
  have HF := hid (dfield_any d b n r s w D.da)
  have HV := hid (vanish_any p b c2 a2 (pk G (Dom.pt p s r) n) w h3 hm D.hp (by omega) (pt_fits h3 hm r s G n) hr2)
  have HUC : Hid (Pol.Can p (pvan p (pk G (Dom.pt p s r) n))) := pvan_can (by omega) _
  have hul := (pvan_list h3 (pk G (Dom.pt p s r) n)).1
  have HUZ : Hid (∀ j, j < n → (evz p (pvan p (pk G (Dom.pt p s r) n)) (Dom.pt p s r j) = 0 ↔ G j = true)) := fun j hj => evz_lost D.pr D.ord D.hsd G j hj
  rw [hpl] at hul
  obtain ⟨L, hL⟩ : ∃ L, L = pk G (Dom.pt p s r) n := ⟨_, rfl⟩
  rw [← hL] at HV HUC HUZ hul ⊢
  obtain ⟨U, hU⟩ : ∃ U, U = pvan p L := ⟨_, rfl⟩
  rw [← hU] at HV HUC HUZ hul
  have HR1 := hid hr1
  have HF1 := hid hf1
  have HUL := hid hul
  have hcn := Cod.cnt_le G n
  have hul2 : U.length ≤ 65537 := by omega
  clear D hf1 hr1 hr2 hpl hL hU hul
  go_enter Tryd.func31, Tryd.ntmps31
  go_wp2_with fail
  refine HF.out.mono ?_
  rintro e w1 ⟨rfl, rfl⟩
  go_wp2_with fail
  refine HV.out.mono ?_
  rintro e w2 ⟨rfl, hcu, hb2, hs2⟩
  have HB2 := hid hb2
  have HD2 := hid (HD.out.step hb2)
  have HRU : Hid (RowB w2.heap.size w2 (some ⟨w1.heap.size, 0, none⟩) U) := hcu.row (Nat.le_refl _) (fun _ _ => rfl) (by omega)
  have HW2 := hid ((HR1.out.below hb2).mono hb2.size)
  clear hcu hb2 hs2 HV HF HR1
  have HT1 := hid (ctimes_any HD2.out a1 (some ⟨w1.heap.size, 0, none⟩) c1 U.length ws U hw (by omega) HF1.out (can_fits hm HUC.out) HW2.out HRU.out)
  obtain ⟨A, hA⟩ : ∃ A, A = tmz p n r s ws U := ⟨_, rfl⟩
  have HAC : Hid (Pol.Can p A) := by unfold Hid; rw [hA]; exact bk_can (by omega) _ _ _ _
  have hal : A.length ≤ n := by rw [hA]; exact bk_len _ _ _ _ _
  have HAT : Hid (∀ j, j < n → evz p A (Dom.pt p s r j) = evz p U (Dom.pt p s r j) * zat ws j % (p : Int)) := fun j hj => by rw [hA]; exact HD2.out.tm_at ws U j hj
  rw [← hA] at HT1
  clear hA
  go_wp2_with fail
  refine HT1.out.mono ?_
  rintro e w3 ⟨g3, c3, rfl, hl3, hb3⟩
  have HB3 : Hid (Below w1.heap.size w1 w3) := HB2.out.trans (hb3.mono HB2.out.size)
  have HD3 := hid (HD2.out.step hb3)
  have HU3 := hid ((HRU.out.below hb3).mono hb3.size)
  have HW3 := hid ((HW2.out.below hb3).mono hb3.size)
  have HLO := hid (loc_any HD3.out g3 c3 sp A HAC.out hal (by omega) hl3)
  clear hl3 hb3 HT1 HRU HW2 HB2
  go_wp2_with fail
  refine HLO.out.mono ?_
  rintro e w4 ⟨h, nx, bf, t, at_, ct, rfl, hli, hx, hrt, hb4⟩
  have HLI := hid hli
  have htl : t.length ≤ 65538 := by have := hli.df; omega
  have ht1 : 1 ≤ t.length := by have := hli.db; omega
  have HB4 : Hid (Below w1.heap.size w1 w4) := HB3.out.trans (hb4.mono HB3.out.size)
  have HD4 := hid (HD3.out.step hb4)
  have HU4 := hid ((HU3.out.below hb4).mono hb4.size)
  have HW4 := hid ((HW3.out.below hb4).mono hb4.size)
  have HPM := hid (pmul_any p b U.length ct (· < w4.heap.size) (some ⟨w1.heap.size, 0, none⟩) at_ U t w4 HD.out.pr h3 hm HD4.out.hp (by omega) (can_fits hm HUC.out) (can_fits hm hli.cf) HU4.out hrt (fun _ h => h))
  have HML := hid (Pol.pmul_len HD.out.pr HUC.out hli.cf (by have := HUL.out; omega) (by omega))
  have HMC : Hid (Pol.Can p (Pol.pmul p U t)) := Pol.mk_can (by omega) _ _
  clear hli hrt hb4 HLO HU3 HW3 HB3
  go_wp2_with fail
  refine HPM.out.mono ?_
  rintro e w5 ⟨am, cm, rfl, hrm, _, hb5⟩
  have hml : (Pol.pmul p U t).length ≤ 131075 := by have := HML.out; omega
  have hm0 : 0 < (Pol.pmul p U t).length := by have := HML.out; have := HUL.out; omega
  have HB5 : Hid (Below w1.heap.size w1 w5) := HB4.out.trans (hb5.mono HB4.out.size)
  have HD5 := hid (HD4.out.step hb5)
  have HM5 := hid hrm.row
  have HW5 := hid ((HW4.out.below hb5).mono hb5.size)
  have HT2 := hid (ctimes_any HD5.out a1 am c1 cm ws (Pol.pmul p U t) hw (by omega) HF1.out (can_fits hm HMC.out) HW5.out HM5.out)
  obtain ⟨B, hB⟩ : ∃ B, B = tmz p n r s ws (Pol.pmul p U t) := ⟨_, rfl⟩
  have HBC : Hid (Pol.Can p B) := by unfold Hid; rw [hB]; exact bk_can (by omega) _ _ _ _
  have hbll : B.length ≤ n := by rw [hB]; exact bk_len _ _ _ _ _
  have HBT : Hid (∀ j, j < n → evz p B (Dom.pt p s r j) = evz p (Pol.pmul p U t) (Dom.pt p s r j) * zat ws j % (p : Int)) := fun j hj => by rw [hB]; exact HD5.out.tm_at ws _ j hj
  rw [← hB] at HT2
  have HMEND : Hid (∀ g : List Int, Pol.Can p g → g.length ≤ k → 2 * off p n r s G ws g ≤ sp → IsD p B (Pol.trim p (Pol.pmul p U t)) g []) := fun g hg hgl hoff =>
    mend HD.out.pr h3 HD.out.ord HD.out.hsd k sp G (wq p G (fun j => evz p g (Dom.pt p s r j)) ws) ws g U A h nx bf t B hsp hg hgl (fun j _ => rfl) hoff HUC.out HUL.out HUZ.out hal HAT.out HLI.out hx hbll HBT.out
  have HTI := hid (Pol.trim_id (by omega) HMC.out)
  clear hB hrm hb5 HPM HU4 HW4 HB4 HBT HML
  go_wp2_with fail
  refine HT2.out.mono ?_
  rintro e w6 ⟨g6, c6, rfl, hl6, hb6⟩
  have HB6 : Hid (Below w1.heap.size w1 w6) := HB5.out.trans (hb6.mono HB5.out.size)
  have HD6 := hid (HD5.out.step hb6)
  have HM6 := hid ((HM5.out.below hb6).mono hb6.size)
  have HDV := hid (divide_full p b c6 cm (some ⟨g6, 0, none⟩) am B (Pol.pmul p U t) w6 HD.out.pr h3 hm HD6.out.hp (by omega) (by omega) (can_fits hm HBC.out) (can_fits hm HMC.out) hl6.row HM6.out (by rw [HTI.out]; exact hm0))
  clear hl6 hb6 HT2 HM5 HW5 HB5
  go_wp2_with fail
  refine HDV.out.mono ?_
  rintro e w7 ⟨q, r', aq, ar, cq, cr, rfl, hd, hq, _, hlq, _, hb7, hrq, hnq⟩
  have HE : Hid (Pol.Can p q ∧ q.length ≤ 131072 ∧ (∀ g : List Int, Pol.Can p g → g.length ≤ k → 2 * off p n r s G ws g ≤ sp → q = g) ∧ Lst w7.heap.size w7 aq cq q ∧ Below w1.heap.size w1 w7) :=
    ⟨hd.cq, by omega, fun g h1 h2 h4 => (IsD.unique HD.out.pr h3 (by rw [HTI.out]; exact HMC.out) hd (HMEND.out g h1 h2 h4)).1, ⟨hq.row, hrq, hnq⟩, HB6.out.trans (hb7.mono HB6.out.size)⟩
  clear hd hq hlq hb7 hrq hnq HDV
  go_wp2_with fail
  go_ret
  exact ⟨q, aq, cq, rfl, HE.out⟩

/-- what Decode answers -/
def DecR (p n k : Nat) (r s : Int) (G : Nat → Bool) (ws q wr : List Int) (ok : Bool) : Prop :=
  (ok = false ∧ q = [] ∧ wr = [] ∧ ∀ g : List Int, Pol.Can p g → g.length ≤ k → ¬ 2 * off p n r s G ws g + Cod.cnt G n ≤ n - k) ∨
  (ok = true ∧ Pol.Can p q ∧ q.length ≤ k ∧ wr = pk (wq p G (fun j => evz p q (Dom.pt p s r j)) ws) (fun j => (j : Int)) n ∧ 2 * off p n r s G ws q + Cod.cnt G n ≤ n - k ∧
    ∀ g : List Int, Pol.Can p g → g.length ≤ k → 2 * off p n r s G ws g + Cod.cnt G n ≤ n - k → q = g)

set_option maxRecDepth 100000 in
theorem dec_bound {w : World} {d b n : Nat} {r s : Int} (k : Int) (a1 a2 : Option Addr) (m1 m2 c1 c2 : Nat) (h : DomAt w d b n r s) (hk : ¬ (1 ≤ k ∧ k ≤ n)) (hk1 : -9223372036854775808 ≤ k) (hk2 : k ≤ 9223372036854775807) (hn : n ≤ 65536) :
    Calls Tryd.prog 13 #[.pointer (some ⟨d, 0, none⟩), .int .i64 k, .slice a1 m1 c1, .slice a2 m2 c2] w fun e w' => e = .returned (.tuple #[.slice none 0 0, .slice none 0 0, .bool false]) ∧ w' = w := by
  have HB := hid (bound_no k h hk hk1 hk2 hn)
  clear h hk
  go_enter Tryd.func13, Tryd.ntmps13
  go_wp2_with fail
  refine HB.out.mono ?_
  rintro e w1 ⟨rfl, rfl⟩
  go_wp2_with fail
  go_ret3
  exact ⟨rfl, rfl⟩

set_option maxRecDepth 100000 in
theorem dec_len {w : World} {d b n : Nat} {r s : Int} (k : Nat) (a1 a2 : Option Addr) (m1 m2 c1 c2 : Nat) (h : DomAt w d b n r s) (h1 : 1 ≤ k) (h2 : k ≤ n) (hn : n ≤ 65536) (hne : m1 ≠ n) :
    Calls Tryd.prog 13 #[.pointer (some ⟨d, 0, none⟩), .int .i64 k, .slice a1 m1 c1, .slice a2 m2 c2] w fun e w' => e = .returned (.tuple #[.slice none 0 0, .slice none 0 0, .bool false]) ∧ w' = w := by
  have HB := hid (bound_yes k h h1 h2 hn)
  have HS := hid (size_any d b n r s w h)
  have hne2 : ((m1 : Int) != (n : Int)) = true := by rw [bne_iff_ne]; omega
  clear h hne
  go_enter Tryd.func13, Tryd.ntmps13
  go_wp2_with fail
  refine HB.out.mono ?_
  rintro e w1 ⟨rfl, rfl⟩
  go_wp2_with fail
  refine HS.out.mono ?_
  rintro e w1 ⟨rfl, rfl⟩
  go_wp2_with fail
  go_ret3
  exact ⟨rfl, rfl⟩

set_option maxRecDepth 100000 in
set_option maxHeartbeats 2000000 in
theorem dec_any {w : World} {p b d n : Nat} {r s : Int} (D : DO w p b d n r s) (k : Nat) (a1 a2 : Option Addr) (c1 c2 : Nat) (ws gs : List Int) (h1 : 1 ≤ k) (h2 : k ≤ n) (hw : ws.length = n) (hgl : gs.length ≤ 281474976710656) (hf1 : Fits ws) (hf2 : Fits gs)
    (hr1 : RowB w.heap.size w a1 ws) (hr2 : RowB w.heap.size w a2 gs) :
    Calls Tryd.prog 13 #[.pointer (some ⟨d, 0, none⟩), .int .i64 k, .slice a1 n c1, .slice a2 gs.length c2] w fun e w' => ∃ (q wr : List Int) (ok : Bool) (aq aw : Option Addr) (cq cw : Nat),
      e = .returned (.tuple #[.slice aq q.length cq, .slice aw wr.length cw, .bool ok]) ∧ DecR p n k r s (gk gs gs.length) ws q wr ok ∧ Lst w'.heap.size w' aq cq q ∧ Lst w'.heap.size w' aw cw wr ∧ Below w.heap.size w w' := by
  obtain ⟨hn0, hn⟩ := D.pos
  have HD := hid D
  have h3 := D.h3
  have hm := D.hm
  have HBO := hid (bound_yes k D.da h1 h2 hn)
  have HSZ := hid (fun (W : World) (h : DO W p b d n r s) => size_any d b n r s W h.da)
  have HLP := hid (lost_any n c2 a2 gs w hn hgl hf2 hr2)
  have hne : ((n : Int) != (n : Int)) = false := by simp
  have HF1 := hid hf1
  have HR1 := hid hr1
  generalize hG : gk gs gs.length = G at *
  clear D hf1 hf2 hr1 hr2
  go_enter Tryd.func13, Tryd.ntmps13
  go_wp2_with fail
  refine HBO.out.mono ?_
  rintro e w1 ⟨rfl, rfl⟩
  go_wp2_with fail
  refine (HSZ.out _ HD.out).mono ?_
  rintro e w1 ⟨rfl, rfl⟩
  go_wp2_with fail
  refine (HSZ.out _ HD.out).mono ?_
  rintro e w1 ⟨rfl, rfl⟩
  go_wp2_with fail
  refine HLP.out.mono ?_
  rintro e w2 ⟨rfl, hri, hb2, hs2⟩
  have HG2 := hid hri
  have HD2 := hid (HD.out.step hb2)
  have HB2 := hid hb2
  have HW2 := hid ((HR1.out.below hb2).mono hb2.size)
  have hlt2 : w1.heap.size < w2.heap.size := by omega
  clear hri hb2 hs2 HLP HR1 HBO
  go_wp2_with fail
  refine (lpts_any HD2.out w1.heap.size G HG2.out).mono ?_
  rintro e w3 ⟨a3, c3, rfl, hl3, hb3⟩
  have HL3 := hid hl3
  have HD3 := hid (HD2.out.step hb3)
  have HG3 : Hid (w3.rowIs w1.heap.size 4 n (fun j => .bool (G j))) := rowIs_below HG2.out hb3 hlt2
  have HB3 : Hid (Below w1.heap.size w1 w3) := HB2.out.trans (hb3.mono HB2.out.size)
  have HW3 := hid ((HW2.out.below hb3).mono hb3.size)
  have hlt3 : w1.heap.size < w3.heap.size := by have := hb3.size; omega
  have hpl := pk_len G (Dom.pt p s r) n
  have hcn := Cod.cnt_le G n
  obtain ⟨L, hL⟩ : ∃ L, L = pk G (Dom.pt p s r) n := ⟨_, rfl⟩
  rw [← hL] at HL3 hpl ⊢
  have HLK := hid hL
  have HLC := hid hpl
  have hLl : L.length ≤ n := by omega
  clear hl3 hb3 HG2 HD2 HB2 HW2 hL
  by_cases hneg : n < k + L.length
  · have e2 : (n : Int) - (k : Int) - (L.length : Int) < 0 := by omega
    clear hpl
    go_wp2_with fail
    refine (HSZ.out _ HD3.out).mono ?_
    rintro e w4 ⟨rfl, rfl⟩
    go_wp2_with fail
    go_ret3
    exact ⟨[], [], false, none, none, 0, 0, rfl, Or.inl ⟨rfl, rfl, rfl, fun g _ _ => by have := HLC.out; omega⟩, Lst.none _ _, Lst.none _ _, HB3.out⟩
  · obtain ⟨sp, hspd⟩ : ∃ sp, sp = n - k - L.length := ⟨_, rfl⟩
    have e2 : (n : Int) - (k : Int) - (L.length : Int) = (sp : Int) := by omega
    have HSP : Hid (sp + k + Cod.cnt G n = n) := by unfold Hid; omega
    have hspn : sp ≤ n := by omega
    have HLI := hid (like_any HD3.out a1 a3 c1 c3 sp k G ws HSP.out hw HF1.out HW3.out (by rw [← HLK.out]; exact HL3.out.row))
    rw [← HLK.out] at HLI
    clear hpl hspd hneg
    go_wp2_with fail
    refine (HSZ.out _ HD3.out).mono ?_
    rintro e w4 ⟨rfl, rfl⟩
    go_wp2_with fail
    refine HLI.out.mono ?_
    rintro e w5 ⟨q, aq, cq, rfl, hcq, hql, hun, hlq, hb5⟩
    have HCQ := hid hcq
    have HUN := hid hun
    have HLQ := hid hlq
    have HD5 := hid (HD3.out.step hb5)
    have HG5 : Hid (w5.rowIs w1.heap.size 4 n (fun j => .bool (G j))) := rowIs_below HG3.out hb5 hlt3
    have HB5 : Hid (Below w1.heap.size w1 w5) := HB3.out.trans (hb5.mono HB3.out.size)
    have HW5 := hid ((HW3.out.below hb5).mono hb5.size)
    have hlt5 : w1.heap.size < w5.heap.size := by have := hb5.size; omega
    have HTP := hid (tpn_can (by omega) hcq)
    clear hcq hun hlq hb5 HLI HL3 HD3 HG3 HB3 HW3
    by_cases hqk : q.length ≤ k
    · have HEN := hid (enc_any HD5.out k aq cq q h1 h2 (by omega) (can_fits hm HCQ.out) HLQ.out.row (by rw [HTP.out]; exact hqk))
      go_wp2_with fail
      refine HEN.out.mono ?_
      rintro e w6 ⟨rfl, hri6, hb6, hlt6⟩
      have HD6 := hid (HD5.out.step hb6)
      have HG6 : Hid (w6.rowIs w1.heap.size 4 n (fun j => .bool (G j))) := rowIs_below HG5.out hb6 hlt5
      have HB6 : Hid (Below w1.heap.size w1 w6) := HB5.out.trans (hb6.mono HB5.out.size)
      have HW6 := hid ((HW5.out.below hb6).mono hb6.size)
      have HQ6 := hid ((HLQ.out.below hb6).mono hb6.size)
      have HWR := hid (wrong_any HD6.out w5.heap.size w1.heap.size c1 (fun j => evz p q (Dom.pt p s r j)) G a1 ws hri6 HG6.out (fun j => evz_bounds p q _ h3) hw HF1.out HW6.out)
      have HOF : Hid ((pk (wq p G (fun j => evz p q (Dom.pt p s r j)) ws) (fun j => (j : Int)) n).length = off p n r s G ws q) := pk_len _ _ _
      obtain ⟨wl, hwl⟩ : ∃ wl, wl = pk (wq p G (fun j => evz p q (Dom.pt p s r j)) ws) (fun j => (j : Int)) n := ⟨_, rfl⟩
      have HWL := hid hwl
      rw [← hwl] at HWR HOF
      have hwn : wl.length ≤ n := by rw [HOF.out]; exact Cod.cnt_le _ _
      clear hri6 hb6 hlt6 hwl HEN HD5 HG5 HB5 HW5 HLQ
      go_wp2_with fail
      refine HWR.out.mono ?_
      rintro e w7 ⟨aw, cw, rfl, hlw, hb7⟩
      have HLW := hid hlw
      have HQ7 := hid ((HQ6.out.below hb7).mono hb7.size)
      have HB7 : Hid (Below w1.heap.size w1 w7) := HB6.out.trans (hb7.mono HB6.out.size)
      clear hlw hb7 HWR
      by_cases hfar : sp < 2 * wl.length
      · have e3 : (sp : Int) < 2 * (wl.length : Int) := by omega
        have HNO : Hid (∀ g : List Int, Pol.Can p g → g.length ≤ k → ¬ 2 * off p n r s G ws g + Cod.cnt G n ≤ n - k) := fun g g1 g2 g3 => by
          have h5 := HSP.out
          have h4 := HUN.out g g1 g2 (by omega)
          subst h4
          have h6 := HOF.out
          omega
        go_wp2_with fail
        go_ret3
        exact ⟨[], [], false, none, none, 0, 0, rfl, Or.inl ⟨rfl, rfl, rfl, HNO.out⟩, Lst.none _ _, Lst.none _ _, HB7.out⟩
      · have e3 : ¬ (sp : Int) < 2 * (wl.length : Int) := by omega
        have HYES : Hid (DecR p n k r s G ws q wl true) := Or.inr ⟨rfl, HCQ.out, hqk, HWL.out, by have h5 := HSP.out; have h6 := HOF.out; omega, fun g g1 g2 g3 => HUN.out g g1 g2 (by have h5 := HSP.out; omega)⟩
        go_wp2_with fail
        go_ret3
        exact ⟨q, wl, true, aq, aw, cq, cw, rfl, HYES.out, HQ7.out, HLW.out, HB7.out⟩
    · have HEN := hid (enc_size HD5.out k aq cq q h1 h2 (by omega) (can_fits hm HCQ.out) HLQ.out.row (by rw [HTP.out]; omega))
      have HNO : Hid (∀ g : List Int, Pol.Can p g → g.length ≤ k → ¬ 2 * off p n r s G ws g + Cod.cnt G n ≤ n - k) := fun g g1 g2 g3 => by
        have h5 := HSP.out
        have h4 := HUN.out g g1 g2 (by omega)
        subst h4
        exact hqk g2
      go_wp2_with fail
      refine HEN.out.mono ?_
      rintro e w6 ⟨rfl, rfl⟩
      go_wp2_with fail
      go_ret3
      exact ⟨[], [], false, none, none, 0, 0, rfl, Or.inl ⟨rfl, rfl, rfl, HNO.out⟩, Lst.none _ _, Lst.none _ _, HB5.out⟩

end Go.Proofs.YtbpkmhibdaafiadDoor
