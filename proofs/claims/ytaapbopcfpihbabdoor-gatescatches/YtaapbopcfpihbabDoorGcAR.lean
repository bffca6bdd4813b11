/- The reference of package gates: On, Through. The law GatesCatches, plainly: how many elements hide what is not so. -/
import Derived.Test.YtaapbopcfpihbabDoorGcAQ
import Derived.Test.YtaapbopcfpihbabDoorSumS
import Derived.Test.YtaapbopcfpihbabDoorGcAK
import Derived.Test.YtaapbopcfpihbabDoorGcAP
import Derived.Test.YtaapbopcfpihbabDoorGcAG
namespace Go.Proofs.YtaapbopcfpihbabDoor
open Go.RowKit

/-- a point of the line through two points -/
def onl (p : Nat) (x y : List Int) (t : Int) : List Int := ls (fun i => (zat x i + t * (zat y i - zat x i)) % (p : Int)) x.length
theorem on_eq (p : Nat) (x y t : Int) : (x + t * ((y - x) % (p : Int)) % (p : Int)) % (p : Int) = (x + t * (y - x)) % (p : Int) := by
  refine emod_of_dvd ?_
  have h1 := Pol.emod_dvd p (t * ((y - x) % (p : Int)))
  have h2 : (p : Int) ∣ t * ((y - x) % (p : Int) - (y - x)) := Int.dvd_mul_of_dvd_right (Pol.emod_dvd p (y - x))
  rw [Int.mul_sub] at h2
  have := Int.dvd_add h1 h2
  generalize t * ((y - x) % (p : Int)) % (p : Int) = A at *
  generalize t * ((y - x) % (p : Int)) = B at *
  generalize t * (y - x) = D at *
  rwa [show x + A - (x + D) = A - B + (B - D) from by omega]

set_option maxRecDepth 100000 in
set_option maxHeartbeats 2000000 in
theorem ron_any (p c1 c2 : Nat) (a1 a2 : Option Addr) (x y : List Int) (t : Int) (w : World) (h3 : 3 ≤ p) (hm : p ≤ 2147483647) (hn : x.length ≤ 1000000) (hxy : y.length = x.length) (fx : Fits x) (fy : Fits y) (ht : i64B t) (rx : RowB w.heap.size w a1 x) (ry : RowB w.heap.size w a2 y) :
    Calls Tryd.prog 10 #[.int .i64 (p : Int), .slice a1 x.length c1, .slice a2 y.length c2, .int .i64 t] w fun e w' => ∃ a' c', e = .returned (.slice a' x.length c') ∧ Lst w'.heap.size w' a' c' (onl p x y t) ∧ Below w.heap.size w w' := by
  rw [hxy]
  obtain ⟨f, hf⟩ : ∃ f : Nat → Int, f = fun i => (zat x i + t * (zat y i - zat x i)) % (p : Int) := ⟨_, rfl⟩
  rw [show onl p x y t = ls f x.length from by rw [hf]; rfl]
  have HFE : Hid (∀ k, (zat x k + t * ((zat y k - zat x k) % (p : Int)) % (p : Int)) % (p : Int) = f k) := fun k => by rw [hf]; exact on_eq p _ _ t
  have HX := hid fx
  have HY := hid fy
  have HRX := hid rx
  have HRY : Hid (∀ k, k < x.length → ∃ b o, a2 = some ⟨b, o, none⟩ ∧ b < w.heap.size ∧ w.cell? ⟨b, o + k, none⟩ = some (.int .i64 (zat y k))) := fun k hk => ry k (by rw [hxy]; exact hk)
  obtain ⟨n, hnn⟩ : ∃ n, n = x.length := ⟨_, rfl⟩
  have HN := hid hnn
  simp only [← hnn] at HRY hn ⊢
  clear fx fy rx ry hxy hf hnn
  go_enter Tryd.func10, Tryd.ntmps10
  go_wp2_with fail
  go_loopw [9, 10, 11] (fun v iv _ wr => ∃ k : Nat, k ≤ n ∧ iv = .int .i64 (k : Int) ∧ Hid (wr.ownsRow w.heap.size 3 1 v (ls f k).length ((ls f k).map (Value.int .i64)) ∧ Below w.heap.size w wr)) (fun _ iv _ _ => n - (intOf iv).toNat)
  case atStart => exact ⟨0, Nat.zero_le _, rfl, World.ownsRow_nil _ _ _ _, Below.refl _ _⟩
  case round =>
    obtain ⟨k, hk, rfl, hI⟩ := hrel
    by_cases hlt : k < n
    · have hlt2 : (k : Int) < (n : Int) := by omega
      have hks : IntKind.i64.wrap ((k : Int) + 1) = (k : Int) + 1 := by rw [IntKind.wrap_i64]; omega
      obtain ⟨b1, o1, rfl, hb1, hx1⟩ := HRX.out k (by rw [← HN.out]; exact hlt)
      obtain ⟨b2, o2, rfl, hb2, hy1⟩ := HRY.out k hlt
      have HSB : Hid (∀ W, Below wr.heap.size wr W → W.cell? ⟨b2, o2 + k, none⟩ = some (.int .i64 (zat y k)) ∧ W.cell? ⟨b1, o1 + k, none⟩ = some (.int .i64 (zat x k))) := fun W hW => by
        have hw := hI.out.2.trans (hW.mono hI.out.2.size)
        exact ⟨(hw.cell (p := ⟨b2, o2 + k, none⟩) hb2).trans hy1, (hw.cell (p := ⟨b1, o1 + k, none⟩) hb1).trans hx1⟩
      have HBD : Hid (Below wr.heap.size wr wr.drew) := (Below.refl _ _).drew
      obtain ⟨f1, f2⟩ := HX.out.all k
      obtain ⟨f3, f4⟩ := HY.out.all k
      have HE := hid (HFE.out k)
      have HLS := hid (ls_succ f k)
      have HLL : Hid ((ls f k).length ≤ 17592186044000) := by unfold Hid; rw [ls_len]; omega
      have HO := hid hI.out.1
      have HBW := hid hI.out.2
      generalize zat x k = X at *
      generalize zat y k = Y at *
      generalize ls f k = lk at *
      have HSU := hid (fun W => rsub_any p Y X W h3 hm f3 f4 f1 f2)
      obtain ⟨e1, e2⟩ := emod_bounds (Y - X) p h3
      have HMU := hid (fun W => rmul_any p t ((Y - X) % (p : Int)) W h3 hm ht.1 ht.2 (by omega) (by omega))
      generalize (Y - X) % (p : Int) = D1 at *
      obtain ⟨e3, e4⟩ := emod_bounds (t * D1) p h3
      have HAD := hid (fun W => radd_any p X (t * D1 % (p : Int)) W h3 hm f1 f2 (by omega) (by omega))
      generalize t * D1 % (p : Int) = D2 at *
      generalize (X + D2) % (p : Int) = D3 at *
      clear hI f1 f2 f3 f4 e1 e2 e3 e4 hb1 hx1 hb2 hy1
      go_wp2_with fail
      refine wp_region_held_drew (S := fun W => W.cell? ⟨b2, o2 + k, none⟩ = some (.int .i64 Y) ∧ W.cell? ⟨b1, o1 + k, none⟩ = some (.int .i64 X)) (by kernel_rfl) (HSB.out _ HBD.out) (fun hHeld => ?_)
      refine wpAnyH_takeU (i := 0) (v := .int .i64 (p : Int)) rfl (by kernel_rfl) (by kernel_rfl) (by kernel_rfl) (fun _ _ _ h => h) (by rfl) (fun W hC => by go_simp) hHeld ?_
      simp only [Act.put, List.setIfInBounds_toArray, List.set_cons_zero, List.set_cons_succ]
      refine wpAnyH_takeU (i := 1) (v := .slice (some ⟨b2, o2, none⟩) n c2) rfl (by kernel_rfl) (by kernel_rfl) (by kernel_rfl) (fun _ _ _ h => h) (by rfl) (fun W hC => by go_simp) hHeld ?_
      simp only [Act.put, List.setIfInBounds_toArray, List.set_cons_zero, List.set_cons_succ]
      refine wpAnyH_takeU (i := 2) (v := .int .i64 (k : Int)) rfl (by kernel_rfl) (by kernel_rfl) (by kernel_rfl) (fun _ _ _ h => h) (by rfl) (fun W hC => by go_simp) hHeld ?_
      simp only [Act.put, List.setIfInBounds_toArray, List.set_cons_zero, List.set_cons_succ]
      refine wpAnyH_takeU (i := 3) (v := .pointer (some ⟨b2, o2 + k, none⟩)) rfl (by kernel_rfl) (by kernel_rfl) (by kernel_rfl) (fun _ _ _ h => h) (by rfl) (fun W hC => by go_simp) hHeld ?_
      simp only [Act.put, List.setIfInBounds_toArray, List.set_cons_zero, List.set_cons_succ]
      refine wpAnyH_takeU (i := 4) (v := .int .i64 Y) rfl (by kernel_rfl) (by kernel_rfl) (by kernel_rfl) (fun _ _ _ h => h) (by rfl) (fun W hC => by (obtain ⟨x1, x2⟩ := hC); go_simp) hHeld ?_
      simp only [Act.put, List.setIfInBounds_toArray, List.set_cons_zero, List.set_cons_succ]
      refine wpAnyH_takeU (i := 5) (v := .slice (some ⟨b1, o1, none⟩) n c1) rfl (by kernel_rfl) (by kernel_rfl) (by kernel_rfl) (fun _ _ _ h => h) (by rfl) (fun W hC => by go_simp) hHeld ?_
      simp only [Act.put, List.setIfInBounds_toArray, List.set_cons_zero, List.set_cons_succ]
      refine wpAnyH_takeU (i := 6) (v := .int .i64 (k : Int)) rfl (by kernel_rfl) (by kernel_rfl) (by kernel_rfl) (fun _ _ _ h => h) (by rfl) (fun W hC => by go_simp) hHeld ?_
      simp only [Act.put, List.setIfInBounds_toArray, List.set_cons_zero, List.set_cons_succ]
      refine wpAnyH_takeU (i := 7) (v := .pointer (some ⟨b1, o1 + k, none⟩)) rfl (by kernel_rfl) (by kernel_rfl) (by kernel_rfl) (fun _ _ _ h => h) (by rfl) (fun W hC => by go_simp) hHeld ?_
      simp only [Act.put, List.setIfInBounds_toArray, List.set_cons_zero, List.set_cons_succ]
      refine wpAnyH_takeU (i := 8) (v := .int .i64 X) rfl (by kernel_rfl) (by kernel_rfl) (by kernel_rfl) (fun _ _ _ h => h) (by rfl) (fun W hC => by (obtain ⟨x1, x2⟩ := hC); go_simp) hHeld ?_
      simp only [Act.put, List.setIfInBounds_toArray, List.set_cons_zero, List.set_cons_succ]
      refine wpAnyH_ready (rs := [9]) (by kernel_rfl) (by simp) ?_
      refine AllReadyH.consU rfl (fun K' hK' => ?_) AllReadyH.nil
      go_simp
      refine (HSU.out wr.drew).mono ?_
      rintro e w3 ⟨rfl, hw⟩
      have hw1 := hw.symm
      subst hw1
      clear hw
      refine hK'.out _ _ (HSB.out _ HBD.out) (fun hHeld => ?_)
      clear hK' K'
      refine wpAnyH_ready (rs := [10]) (by kernel_rfl) (by simp) ?_
      refine AllReadyH.consU rfl (fun K' hK' => ?_) AllReadyH.nil
      go_simp
      refine hK'.out _ _ (HSB.out _ HBD.out) (fun hHeld => ?_)
      clear hK' K'
      refine wpAnyH_done (by kernel_rfl) ?_ _
      have hx4 := (HSB.out _ HBD.out).2
      have HBW2 : Hid (Below w.heap.size w wr.drew) := HBW.out.drew
      generalize wr.drew = WD at *
      go_wp2_with fail
      refine (HMU.out WD).mono ?_
      rintro e w4 ⟨rfl, hw⟩
      have hw1 := hw.symm
      subst hw1
      clear hw
      go_wp2_with fail
      refine (HAD.out WD).mono ?_
      rintro e w4 ⟨rfl, hw⟩
      have hw1 := hw.symm
      subst hw1
      clear hw
      have HO2 : Hid ((WD.alloc (.cells #[.int .i64 D3] 3)).ownsRow w.heap.size 3 1 _ lk.length (lk.map (Value.int .i64))) := (own_step HO.out HBD.out).alloc _
      have HC : Hid ((WD.alloc (.cells #[.int .i64 D3] 3)).cell? ⟨WD.heap.size, 0, none⟩ = some (.int .i64 D3)) := by unfold Hid; simp
      have HS : Hid (w.heap.size ≤ (WD.alloc (.cells #[.int .i64 D3] 3)).heap.size) := by have := HBW2.out.size; unfold Hid; simp; omega
      have HB2 : Hid (Below w.heap.size w (WD.alloc (.cells #[.int .i64 D3] 3))) := HBW2.out.alloc HBW2.out.size _
      clear HO HSB hx4 HMU HAD HSU
      go_wp2_with (at_builtin; refine wpList_append1 (WD.alloc (.cells #[.int .i64 D3] 3)) w.heap.size WD.heap.size D3 rfl _ _ rfl _ rfl lk HO2.out rfl HC.out HLL.out HS.out ?_)
      intro v' w5 ho5 _ _ hb5
      have HR : Hid (w5.ownsRow w.heap.size 3 1 v' (ls f (k + 1)).length ((ls f (k + 1)).map (Value.int .i64)) ∧ Below w.heap.size w w5) := by
        unfold Hid
        rw [HLS.out, ← HE.out, List.length_append, List.map_append]
        exact ⟨ho5, HB2.out.trans hb5⟩
      clear ho5 hb5 HO2 HC HS HB2 HLS HE
      go_wp2_with fail
      go_roundw
      case rel => exact ⟨k + 1, by omega, by go_num, HR.out⟩
      case measure => simp [intOf]; omega
    · obtain rfl : k = n := by omega
      have hlt2 : ¬ (k : Int) < (k : Int) := by omega
      obtain ⟨a', c', rfl, hl⟩ := lst_of_owns hI.out.1
      rw [ls_len]
      have HL := hid hl
      have HB := hid hI.out.2
      clear hI hl
      go_wp2_with fail
      go_ret
      exact ⟨a', c', rfl, HL.out, HB.out⟩

set_option maxRecDepth 100000 in
set_option maxHeartbeats 2000000 in
theorem rthrough_any (p cap : Nat) (a : Option Addr) (l : List Int) (r : Int) (w : World) (h3 : 3 ≤ p) (hm : p ≤ 2147483647) (hl : l.length ≤ 17592186043904) (hf : Fits l) (hr1 : -9223372036854775808 ≤ r) (hr2 : r ≤ 9223372036854775807) (hrow : RowB w.heap.size w a l) :
    Calls Tryd.prog 8 #[.int .i64 p, .slice a l.length cap, .int .i64 r] w fun e w' => e = .returned (.int .i64 (atz p l r)) ∧ Below w.heap.size w w' := by
  obtain ⟨i0, hi, hz0, hz1, hz2⟩ := info_parts Tryd.infoInt
  have HF := hid hf
  have HR := hid hrow
  obtain ⟨n, hn⟩ : ∃ n, n = l.length := ⟨_, rfl⟩
  rw [← hn] at hl ⊢
  have HN := hid hn
  clear hf hrow hn
  go_enter Tryd.func8, Tryd.ntmps8
  go_wp2_with fail
  go_loopw [7, 8] (fun v iv wr => ∃ k : Nat, k ≤ n ∧ iv = .int .i64 k ∧ Hid (wr.ownsRow w.heap.size 3 1 v (cnt' k).length ((cnt' k).map (Value.int .i64)) ∧ Below w.heap.size w wr)) (fun _ iv _ => n - (intOf iv).toNat)
  case atStart => exact ⟨0, by omega, rfl, World.ownsRow_nil _ _ _ _, Below.refl _ _⟩
  case round =>
    obtain ⟨k, hk, rfl, hI⟩ := hrel
    by_cases hlt : k < n
    · have hlt2 : (k : Int) < (n : Int) := by omega
      have hks : IntKind.i64.wrap ((k : Int) + 1) = (k : Int) + 1 := by rw [IntKind.wrap_i64]; omega
      have hown := hI.out.1
      have hbel := hI.out.2
      have HLS := hid (cnt_len k)
      have HSC : Hid (cnt' (k + 1) = cnt' k ++ [(k : Int)]) := by unfold Hid cnt'; rw [ls_succ]
      generalize cnt' k = Z at *
      have hZ : Z.length ≤ 17592186043904 := by rw [HLS.out]; omega
      have hsz : w.heap.size ≤ wr.heap.size := hbel.size
      clear hI
      go_wp2_with (at_builtin; refine wpList_append_own _ rfl _ _ 25 rfl w.heap.size 3 i0 (.int .i64 0) 1 8 Tryd.underlying25 hi hz0 hz1 hz2 rfl (by decide) _ _ _ rfl (hown.alloc _) ⟨wr.heap.size, 0, none⟩ 1 1 [.int .i64 (k : Int)] rfl rfl ?c1 ?c2 ?c3 ?c4 ?c5 ?_)
      case c1 =>
        intro j u hj
        match j, hj with
        | 0, hj => simp at hj; subst hj; simp [Addr.add]
      case c2 => intro u hu; simp at hu; subst hu; rfl
      case c3 => unfold maxLen; omega
      case c4 => omega
      case c5 => simp; omega
      intro v' w5 hown2 hgrow _
      have hown3 := owns_succ hown2
      have HE : Hid (w5.ownsRow w.heap.size 3 1 v' (cnt' (k + 1)).length ((cnt' (k + 1)).map (Value.int .i64)) ∧ Below w.heap.size w w5) := by
        unfold Hid
        rw [HSC.out]
        exact ⟨hown3, (hbel.alloc hsz _).grown hgrow (by simp; omega) (fun j hj => (hown.lt j hj).1)⟩
      clear hown2 hown3 hgrow hown hbel
      go_wp2_with fail
      go_roundw
      case rel => exact ⟨k + 1, by omega, by go_num, HE⟩
      case measure => simp [intOf]; omega
    · obtain rfl : k = n := by omega
      have hlt2 : ¬ (k : Int) < (k : Int) := by omega
      obtain ⟨ax, cx, hv, hlx⟩ := lst_of_owns hI.out.1
      rw [cnt_len] at hv
      subst hv
      have HB := hid hI.out.2
      have HFI : Hid (Calls Tryd.prog 22 #[.int .i64 p, .slice ax k cx, .slice a k cap] wr fun e w' => ∃ a' c', e = .returned (.slice a' (pfit p (cnt' k) l).length c') ∧ RowB w'.heap.size w' a' (pfit p (cnt' k) l) ∧ Below wr.heap.size wr w') := by
        have h := rfit_any p cx cap ax a (cnt' k) l wr h3 hm (by rw [cnt_len]; exact hl) (fun j hj => by rw [cnt_len] at hj; unfold cnt'; rw [ls_at _ _ _ hj]; omega) HF.out hlx.row ((HR.out.below HB.out).mono HB.out.size) (by rw [cnt_len]; exact HN.out)
        rw [cnt_len, ← HN.out] at h
        exact h
      have HPC := hid (pfit_can h3 (cnt' k) l)
      have HPL : Hid ((pfit p (cnt' k) l).length ≤ k) := by have := pfit_le p (cnt' k) l; rw [cnt_len] at this; exact this
      have HE0 : Hid (atz p l r = evz p (pfit p (cnt' k) l) r) := by unfold Hid atz; rw [← HN.out]
      generalize pfit p (cnt' k) l = g at *
      clear hI hlx
      go_wp2_with fail
      refine HFI.out.mono ?_
      rintro e w2 ⟨a', c', rfl, hrow, hb2⟩
      have HB2 : Hid (Below w.heap.size w w2) := HB.out.trans (hb2.mono HB.out.size)
      have HEV := hid (reval_any p c' (· < w2.heap.size) a' g r w2 h3 hm (by have := HPL.out; omega) (fits_of_can hm HPC.out) hr1 hr2 (hrow.p (fun _ h => h)))
      clear hrow hb2 HFI
      go_wp2_with fail
      refine HEV.out.mono ?_
      rintro e w3 ⟨rfl, rfl⟩
      go_wp2_with fail
      go_ret
      exact ⟨by rw [HE0.out]; rfl, HB2.out⟩

end Go.Proofs.YtaapbopcfpihbabDoor

namespace Go.Proofs.YtaapbopcfpihbabDoor
open Go.RowKit

/-- what is told as a polynomial -/
theorem atz_ps {p n : Nat} (h3 : 3 ≤ p) {l : List Int} (hl : l.length = n) (r : Int) : (p : Int) ∣ atz p l r - Pol.ps (FS p (cnt' n) l n) r n := by
  unfold atz
  rw [evz_pfit h3, hl, cnt_len]
  exact Pol.emod_dvd p _
theorem told_at {p n : Nat} (hp : Num.Prime p) (h3 : 3 ≤ p) {l : List Int} (hn : n ≤ p) {j : Nat} (hj : j < n) : (p : Int) ∣ Pol.ps (FS p (cnt' n) l n) (j : Int) n - zat l j := by
  have hl : (cnt' n).length = n := cnt_len _
  have h := Sum.pfit_at hp h3 (cnt' n) l (by rw [hl]; exact cnt_unlike hn) j (by rw [hl]; exact hj)
  rw [hl, cnt_at hj] at h
  exact h
theorem unl_inc {p d : Nat} {s : Nat → Nat} (h1 : ∀ i, i < d → s i < p) (h2 : ∀ i j, i < j → j < d → s i < s j) : ∀ i j, i < j → j < d → ¬ (p : Int) ∣ ((s j : Nat) : Int) - ((s i : Nat) : Int) := fun i j hij hj hd => by
  have a := h1 j hj
  have b := h2 i j hij hj
  have := Int.le_of_dvd (by omega) hd
  omega
/-- a claim about a layer that is not so is hidden by two elements at the most -/
theorem hid_part {p m : Nat} {gs : List GatZ} {t z told : List Int} (hp : Num.Prime p) (h3 : 3 ≤ p) (ht : t.length = 2 ^ (m + 1)) (hl : told.length = 3) (hc : (zat told 0 + zat told 1) % (p : Int) ≠ ptz p gs t (m + 1) z []) : hcn (fun r => decide (atz p told (r : Int) = ptz p gs t (m + 1) z [(r : Int)])) p ≤ 2 := by
  refine Classical.byContradiction fun hno => hc ?_
  obtain ⟨s, h1, h2⟩ := hcn_many (fun r => decide (atz p told (r : Int) = ptz p gs t (m + 1) z [(r : Int)])) p 3 (by omega)
  have hk := part_catch (p := p) (m := m) (gs := gs) (t := t) (z := z) hp ht (FS p (cnt' 3) told 3) (fun i => ((s i : Nat) : Int)) (unl_inc (fun i hi => (h1 i hi).2) h2) (fun i hi => by
    have e := of_decide_eq_true (h1 i hi).1
    rw [← e]
    have := Int.dvd_neg.2 (atz_ps h3 hl ((s i : Nat) : Int))
    rwa [Int.neg_sub] at this)
  have f0 := told_at hp h3 (l := told) (n := 3) (by omega) (show 0 < 3 by omega)
  have f1 := told_at hp h3 (l := told) (n := 3) (by omega) (show 1 < 3 by omega)
  have f2 := Int.dvd_add f0 f1
  have f3 := Int.dvd_sub hk f2
  obtain ⟨b1, b2⟩ := emod_bounds (Dom.sm (ptt p gs t (m + 1) z []) gs.length) p h3
  have e : ptz p gs t (m + 1) z [] = Dom.sm (ptt p gs t (m + 1) z []) gs.length % (p : Int) := rfl
  rw [← e] at b1 b2
  have e0 : ((0 : Nat) : Int) = 0 := rfl
  have e1 : ((1 : Nat) : Int) = 1 := rfl
  rw [e0, e1] at f3
  generalize ptz p gs t (m + 1) z [] = M at *
  rw [show ∀ a b c d : Int, a + b - M - (a - c + (b - d)) = c + d - M from fun a b c d => by omega] at f3
  rw [(Pol.emod_eq_iff (show 0 < p by omega)).2 f3, Int.emod_eq_of_lt b1 b2]
/-- what a table extends to on a line -/
theorem exz_line {p v : Nat} {T x y : List Int} (hT : T.length = 2 ^ v) (hv : v ≤ 12) (hx : x.length = v) (t : Int) : exz p T (onl p x y t) = Sum.ext (zat T) (fun k => zat x k + t * (zat y k - zat x k)) v % (p : Int) := by
  have hl : (onl p x y t).length = v := by unfold onl; rw [ls_len, hx]
  unfold exz
  rw [hl, if_pos (vrs_yes hv hT)]
  refine emod_of_dvd (Sum.ext_congr (fun i _ => by rw [Int.sub_self]; exact Int.dvd_zero _) (fun j hj => ?_))
  unfold onl
  rw [ls_at _ _ _ (by omega)]
  exact Pol.emod_dvd p _
theorem exe_line {p v : Nat} {T x y : List Int} (hT : T.length = 2 ^ v) (hv : v ≤ 12) (hx : x.length = v) (t : Int) : exe T (onl p x y t) = 0 := by
  have hl : (onl p x y t).length = v := by unfold onl; rw [ls_len, hx]
  unfold exe
  rw [hl, if_pos (vrs_yes hv hT)]
/-- is it hidden at t? -/
def hdl (p : Nat) (T x y line : List Int) (t : Nat) : Bool := decide (atz p line (t : Int) = exz p T (onl p x y (t : Int)))
theorem line_all {p v : Nat} {T x y line : List Int} (hp : Num.Prime p) (h3 : 3 ≤ p) (hT : T.length = 2 ^ v) (hv : v ≤ 12) (hx : x.length = v) (hl : line.length = v + 1) (s : Nat → Nat) (h1 : ∀ i, i < v + 1 → hdl p T x y line (s i) = true ∧ s i < p) (h2 : ∀ i j, i < j → j < v + 1 → s i < s j) (t : Nat) : hdl p T x y line t = true := by
  have hk := line_catch (p := p) (v := v) hp (zat T) (zat x) (zat y) (FS p (cnt' (v + 1)) line (v + 1)) (fun i => ((s i : Nat) : Int)) (unl_inc (fun i hi => (h1 i hi).2) h2) (fun i hi => by
    have e := of_decide_eq_true (h1 i hi).1
    rw [exz_line hT hv hx] at e
    have a := Int.dvd_neg.2 (atz_ps h3 hl ((s i : Nat) : Int))
    rw [e] at a
    have b := Pol.emod_dvd p (Sum.ext (zat T) (fun k => zat x k + ((s i : Nat) : Int) * (zat y k - zat x k)) v)
    have := Int.dvd_add a b
    rwa [show ∀ a b c : Int, -(a - b) + (a - c) = b - c from fun a b c => by omega] at this) (t : Int)
  unfold hdl
  rw [decide_eq_true_eq, exz_line hT hv hx]
  unfold atz
  rw [evz_pfit h3, hl, cnt_len]
  exact emod_of_dvd hk
/-- a line that is so is so everywhere -/
theorem line_so {p v : Nat} {T x y line : List Int} (hp : Num.Prime p) (h3 : 3 ≤ p) (hT : T.length = 2 ^ v) (hv : v ≤ 12) (hx : x.length = v) (hl : line.length = v + 1) (h : ∀ t, t < p → t ≤ v → hdl p T x y line t = true) : hcn (hdl p T x y line) p = p := by
  refine hcn_all _ p (fun t ht => ?_)
  by_cases e : t ≤ v
  · exact h t ht e
  · exact line_all hp h3 hT hv hx hl (fun i => i) (fun i hi => ⟨h i (by omega) (by omega), by show i < p; omega⟩) (fun i j hij _ => hij) t
/-- one that is not so is hidden by at most as many elements as there are variables -/
theorem line_not {p v : Nat} {T x y line : List Int} (hp : Num.Prime p) (h3 : 3 ≤ p) (hT : T.length = 2 ^ v) (hv : v ≤ 12) (hx : x.length = v) (hl : line.length = v + 1) {t0 : Nat} (h0 : hdl p T x y line t0 = false) : hcn (hdl p T x y line) p ≤ v := by
  refine Classical.byContradiction fun hno => ?_
  obtain ⟨s, h1, h2⟩ := hcn_many (hdl p T x y line) p (v + 1) (by omega)
  have := line_all hp h3 hT hv hx hl s h1 h2 t0
  rw [h0] at this
  cases this
/-- Part of a circuit of one gate -/
theorem one_part (p b : Nat) (W : World) (hIT : InT p b W) :
    Calls Tryd.prog 5 #[.pointer (some ⟨b, 0, none⟩), .agg #[.int .i64 0, .slice (some ⟨W.heap.size + 1, 0, none⟩) 1 1], .int .i64 0, .slice (some ⟨W.heap.size + 2, 0, none⟩) 1 1, .slice none 0 0, .slice none 0 0] (oneW W) fun e w' => e = .returned (.tuple #[.int .i64 1, .nilIface]) ∧ Below W.heap.size W w' := by
  obtain ⟨h1, h2⟩ := oneW_lst W
  have fn : Fits ([] : List Int) := fun j hj => by simp at hj
  have hb1 : bnn 0 oneL 1 = 0 := by unfold bnn bnz; rw [if_neg (by decide), show (lyt oneL (1 - 1)).length = 1 from rfl, wdz_yes (v := 0) (by omega) rfl]; rfl
  have hb0 : bnn 0 oneL 0 = 0 := by unfold bnn bnz; rw [if_pos rfl]; rfl
  have hp : pte 0 oneL 1 0 0 0 = 0 := by
    unfold pte
    rw [if_pos one_vle, if_pos (by decide), if_pos ⟨by rw [show (0 : Int).toNat + 1 = 1 from rfl, hb1], Nat.zero_le _⟩]
  have hv : ptv p 0 oneL [1] 0 [] [] = 1 := by
    have h := ptz_nil (p := p) (n := 0) (gs := lyt oneL 0) (t := gvs p oneL [1] 0) (z := []) rfl (fun k hk => by
      obtain rfl : k = 0 := by simp [oneL, lyt] at hk; exact hk
      decide)
    unfold ptv
    rw [show ([] : List Int).length = 0 from rfl, show ([1] : List Int).length = 1 from rfl, if_pos hp, show (0 : Int).toNat = 0 from rfl, hb0, h, show ([] : List Int).length = 0 from rfl, Sum.ext_zero, show gvl p (gvs p oneL [1] 0) (lyt oneL 0) = gvs p oneL [1] 1 from rfl, one_gvs hIT.h3]
    exact Int.emod_eq_of_lt (by simp [zat]) (by have := hIT.h3; simp [zat]; omega)
  have h := part_all p b 1 1 0 0 0 0 (some ⟨W.heap.size + 1, 0, none⟩) (some ⟨W.heap.size + 2, 0, none⟩) none none oneL [1] [] [] (oneW W) (hIT.below (oneW_below W)) one_cir h1 h2 (fun j hj => by
    obtain rfl : j = 0 := by simp at hj; exact hj
    simp [zat]) fn fn (Lst.none _ _).row (Lst.none _ _)
  rw [hv, show ([] : List Int).length = 0 from rfl, show ([1] : List Int).length = 1 from rfl, hp, errz_nil] at h
  refine h.mono ?_
  rintro e w' ⟨rfl, hb⟩
  exact ⟨rfl, (oneW_below W).trans (hb.mono (oneW_below W).size)⟩

end Go.Proofs.YtaapbopcfpihbabDoor
