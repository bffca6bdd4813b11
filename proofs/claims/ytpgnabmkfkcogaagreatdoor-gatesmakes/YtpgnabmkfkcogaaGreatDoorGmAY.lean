/- The reference of package gates: Values. The reference of package gates: bits. -/
import Derived.Test.YtpgnabmkfkcogaaGreatDoorGmAK
import Derived.Test.YtpgnabmkfkcogaaGreatDoorGmAX
import Derived.Test.YtpgnabmkfkcogaaGreatDoorGmAM
import Derived.Test.YtpgnabmkfkcogaaGreatDoorGmAI
namespace Go.Proofs.YtpgnabmkfkcogaaGreatDoor
open Go.RowKit

set_option maxHeartbeats 1000000 in
theorem rall_slr (p n cap : Nat) (a : Option Addr) (f : Nat → Int) (w : World) (h3 : 3 ≤ p) (hm : p ≤ 2147483647)
    (hn : n ≤ 17592186044416) (hfit : FitsF n f) (hrow : RowF (· < w.heap.size) w a n f) :
    Calls Tryz.prog 126 #[.int .i64 p, .slice a n cap] w fun e w' => ∃ v, e = .returned v ∧ SlR w' (ls (fun j => f j % (p : Int)) n) v ∧ Below w.heap.size w w' := by
  obtain ⟨i0, hi, hz0, hz1, hz2⟩ := info_parts Tryz.infoInt
  have HF := hid hfit
  have HR := hid hrow
  clear hfit hrow
  go_enter Tryz.func126, Tryz.ntmps126
  go_wp2_with fail
  go_loopw [5, 6] (fun v iv wr => ∃ k : Nat, k ≤ n ∧ iv = .int .i64 k ∧ wr.ownsRow w.heap.size 3 1 v (ls (fun j => f j % (p : Int)) k).length ((ls (fun j => f j % (p : Int)) k).map (Value.int .i64)) ∧ Below w.heap.size w wr)
    (fun _ iv _ => n - (intOf iv).toNat)
  case atStart => exact ⟨0, Nat.zero_le _, rfl, World.ownsRow_nil _ _ _ _, Below.refl _ _⟩
  case round =>
    obtain ⟨k, hk, rfl, hown, hbel⟩ := hrel
    have hsz := hbel.size
    by_cases hlt : k < n
    · have hlt2 : (k : Int) < (n : Int) := by omega
      obtain ⟨bl, ol, rfl, hbl, hcl⟩ := HR.out k hlt
      have hcl2 := (hbel.cell (p := ⟨bl, ol + k, none⟩) hbl).trans hcl
      obtain ⟨hx1, hx2⟩ := HF.out k hlt
      have HLS := hid (ls_succ (fun j => f j % (p : Int)) k)
      have HLL := hid (ls_len (fun j => f j % (p : Int)) k)
      generalize f k = x at *
      clear hcl
      go_wp2_with fail
      refine (rof_any p x _ h3 hm hx1 hx2).mono ?_
      rintro e w1 ⟨rfl, rfl⟩
      generalize ls (fun j => f j % (p : Int)) k = lk at *
      go_wp2_with (at_builtin; refine wpList_append_own _ rfl _ _ 23 rfl w.heap.size 3 i0 (.int .i64 0) 1 8 Tryz.underlying23 hi hz0 hz1 hz2 rfl (by decide) _ _ _ rfl (hown.alloc _) ⟨w1.heap.size, 0, none⟩ 1 1 [.int .i64 (x % (p : Int))] rfl rfl ?c1 ?c2 ?c3 ?c4 ?c5 ?_)
      case c1 =>
        intro j u hj
        match j, hj with
        | 0, hj => simp at hj; subst hj; simp [Addr.add]
      case c2 => intro u hu; simp at hu; subst hu; rfl
      case c3 => have := HLL.out; unfold maxLen; omega
      case c4 => have := HLL.out; omega
      case c5 => simp; omega
      intro v' w2 hown2 hgrow _
      have hown3 := owns_succ hown2
      have HB : Hid (Below w.heap.size w w2) := (hbel.alloc hsz _).grown hgrow (by simp; omega) (fun k hk => (hown.lt k hk).1)
      have HO := hid hown3
      clear hown2 hown3 hgrow hown hbel
      go_wp2_with fail
      go_roundw
      case rel => exact ⟨k + 1, by omega, by go_num, by rw [HLS.out]; exact HO.out, HB.out⟩
      case measure => simp [intOf]; omega
    · have hlt2 : ¬ (k : Int) < (n : Int) := by omega
      obtain rfl : k = n := by omega
      have HE : Hid (SlR wr (ls (fun j => f j % (p : Int)) k) _ ∧ Below w.heap.size w wr) := ⟨slr_of_owns hown, hbel⟩
      clear hown hbel
      go_wp2_with fail
      go_ret
      exact ⟨_, rfl, HE.out⟩

set_option maxRecDepth 100000 in
set_option maxHeartbeats 4000000 in
theorem rvalues13_any (p cL ci : Nat) (wide : Int) (aL ai : Option Addr) (lys : List (List GatZ)) (inputs : List Int) (w : World) (h3 : 3 ≤ p) (hm : p ≤ 2147483647) (hS : SzC wide lys) (hG : GtC wide lys) (hin : inputs.length = 2 ^ wide.toNat) (hl : LstGG w.heap.size w aL cL lys) (hi : Lst w.heap.size w ai ci inputs) (hf : Fits inputs) :
    Calls Tryz.prog 86 #[.int .i64 (p : Int), .agg #[.int .i64 wide, .slice aL lys.length cL], .slice ai inputs.length ci] w fun e w' => ∃ v, e = .returned v ∧ OwnR w.heap.size w' v (gva p lys inputs (lys.length + 1)) ∧ Below w.heap.size w w' := by
  obtain ⟨i0, hi0, hz0, hz1, hz2⟩ := info_parts Tryz.infoInt
  obtain ⟨W0, hW0⟩ : ∃ W0, W0 = w.alloc (.cells #[.int .i64 wide, .slice aL lys.length cL] 69) := ⟨_, rfl⟩
  obtain ⟨hb0, hs0, hzz⟩ := own_blk hW0
  obtain ⟨G, hGe⟩ : ∃ G, G = w.heap.size := ⟨_, rfl⟩
  have HGE := hid hGe
  rw [← hGe] at hs0
  have hm64 : inputs.length ≤ 64 := by rw [hin]; exact pow_6 (by have := hS.1; omega)
  have hn8 := hS.2.1.2
  have HIN := hid hin
  have HSC := hid hS
  have HGC := hid hG
  have HLS0 : Hid (∀ W, Below W0.heap.size W0 W → LstGG W0.heap.size W aL cL lys) := fun W hW => (hl.step hb0).below hW
  have HAL : Hid (Calls Tryz.prog 126 #[.int .i64 (p : Int), .slice ai inputs.length ci] W0 fun e w' => ∃ v, e = .returned v ∧ SlR w' (gvs p lys inputs 0) v ∧ Below W0.heap.size W0 w') := rall_slr p inputs.length ci ai (zat inputs) W0 h3 hm (by omega) (fun j hj => hf j hj) (fun k hk => by
    obtain ⟨b, o, e1, e2, e4⟩ := hi.row k hk
    exact ⟨b, o, e1, by have := hb0.size; show b < _; omega, (hb0.cell (p := ⟨b, o + k, none⟩) e2).trans e4⟩)
  obtain ⟨n, hnn⟩ : ∃ n, n = lys.length := ⟨_, rfl⟩
  have HN := hid hnn
  have HSK : Hid (∀ W, Below W0.heap.size W0 W → W.cell? ⟨G, 1, none⟩ = some (.slice aL n cL)) := fun W hW => by
    rw [← hnn] at hs0
    have e1 := (hW.block G (by omega)).trans hs0
    simp [World.cell?, e1]
  rw [← hnn] at hn8 hW0 ⊢
  have HB0 := hid hb0
  have HWG := hid hW0
  have HBK : Hid (∀ W, Below W0.heap.size W0 W → Below w.heap.size w W) := fun W hW => hb0.trans (hW.mono hb0.size)
  clear hS hG hl hi hf hin hnn hb0 hs0 hzz hGe hW0
  have HMI := hid (show inputs.length = inputs.length from rfl)
  obtain ⟨mi, hmi⟩ : ∃ mi, mi = inputs.length := ⟨_, rfl⟩
  rw [← hmi] at hm64 HAL ⊢
  clear hmi HMI
  go_enter Tryz.func86, Tryz.ntmps86
  go_wp2_with fail
  rw [← HGE.out, ← HWG.out]
  clear HWG
  refine HAL.out.mono ?_
  rintro e w1 ⟨v1, rfl, hsl1, hb1⟩
  have hB2 := hb1.alloc hb1.size (.cells #[v1] 23)
  have HO1 : Hid (OwnR W0.heap.size (w1.alloc (.cells #[v1] 23)) (.slice (some ⟨w1.heap.size, 0, none⟩) 1 1) (gva p lys inputs 1)) := by
    have := (ownR_one hsl1).mono hb1.size
    unfold Hid
    rw [show gva p lys inputs 1 = [gvs p lys inputs 0] from by simp [gva]]
    exact this
  have HS1 : Hid (SlR (w1.alloc (.cells #[v1] 23)) (gvs p lys inputs 0) v1) := hsl1.keep ((Below.refl _ _).alloc (Nat.le_refl _) _)
  have HB2 := hid hB2
  have hone : v1.oneCell' = true := hsl1.one
  obtain ⟨al1, cl1, hv1, _⟩ := hsl1
  subst hv1
  clear hb1 hB2 HAL
  go_wp2_with fail
  generalize w1.alloc (.cells #[.slice al1 (gvs p lys inputs 0).length cl1] 23) = W2 at *
  generalize w1.heap.size = Z at *
  go_loopw [7, 8, 9, 10, 11, 12, 13] (fun lv ov iv _ _ _ _ wr => ∃ i : Nat, i ≤ n ∧ iv = .int .i64 (i : Int) ∧ Hid (SlR wr (gvs p lys inputs i) lv ∧ OwnR W0.heap.size wr ov (gva p lys inputs (i + 1)) ∧ Below W0.heap.size W0 wr)) (fun _ _ iv _ _ _ _ _ => n - (intOf iv).toNat)
  case atStart => exact ⟨0, by omega, rfl, HS1.out, HO1.out, HB2.out⟩
  case round =>
    obtain ⟨i, hi, rfl, hI⟩ := hrel
    obtain ⟨wo, hwo⟩ : ∃ wo, wo = wr := ⟨_, rfl⟩
    subst hwo
    have c1 := HSK.out wo hI.out.2.2
    by_cases hit : i < n
    · have hit2 : (i : Int) < (n : Int) := by omega
      have his : IntKind.i64.wrap ((i : Int) + 1) = (i : Int) + 1 := by rw [IntKind.wrap_i64]; omega
      have HNI : Hid (i < lys.length) := by unfold Hid; rw [← HN.out]; exact hit
      have HGL : Hid ((gvs p lys inputs i).length = 2 ^ bnn wide lys i) := gvs_len HSC.out HIN.out (by have := HNI.out; omega)
      have hL64 : (lyt lys i).length ≤ 64 := by rw [(HSC.out.own HNI.out).1]; exact pow_6 (HSC.out.bn (by have := HNI.out; omega)).2
      obtain ⟨al, cl, hlv, hll⟩ := hI.out.1.lst
      subst hlv
      have HLL0 := hid hll
      have HOO := hid hI.out.2.1
      have HBO := hid hI.out.2.2
      have HGO : Hid (∀ q, q < (lyt lys i).length → GtO (gvs p lys inputs i).length (gat (lyt lys i) q)) := fun q hq => by rw [HGL.out]; exact HGC.out i HNI.out q hq
      obtain ⟨F, hF⟩ : ∃ F : Nat → Int, F = fun q => jnz p (gat (lyt lys i) q).kind (zat (gvs p lys inputs i) (gat (lyt lys i) q).a.toNat) (zat (gvs p lys inputs i) (gat (lyt lys i) q).b.toNat) := ⟨_, rfl⟩
      have HFK : Hid (∀ q, F q = jnz p (gat (lyt lys i) q).kind (zat (gvs p lys inputs i) (gat (lyt lys i) q).a.toNat) (zat (gvs p lys inputs i) (gat (lyt lys i) q).b.toNat)) := fun q => by rw [hF]
      have HFE : Hid (ls F (lyt lys i).length = gvs p lys inputs (i + 1)) := by unfold Hid; rw [hF]; rfl
      have HFT := hid (gvs_fits h3 hm lys inputs i)
      obtain ⟨L, hL⟩ : ∃ L, L = (lyt lys i).length := ⟨_, rfl⟩
      have HLE := hid hL
      simp only [← hL] at hL64 HGO HFE
      obtain ⟨ll, hlleq⟩ : ∃ ll, ll = (gvs p lys inputs i).length := ⟨_, rfl⟩
      simp only [← hlleq] at HGO ⊢
      have HLQ := hid hlleq
      clear hI hll hF hL hlleq
      go_wp2_with fail
      go_loopw [10, 11, 12, 13] (fun nv jv _ _ wi => ∃ j : Nat, j ≤ L ∧ jv = .int .i64 (j : Int) ∧ Hid (wi.ownsRow wo.heap.size 3 1 nv (ls F j).length ((ls F j).map (Value.int .i64)) ∧ Below wo.heap.size wo wi)) (fun _ jv _ _ _ => L - (intOf jv).toNat)
      case atStart => exact ⟨0, by omega, rfl, World.ownsRow_nil _ _ _ _, Below.refl _ _⟩
      case round =>
        obtain ⟨j, hj, rfl, hJ⟩ := hrel
        have hb0w : Below W0.heap.size W0 wr := HBO.out.trans (hJ.out.2.mono HBO.out.size)
        have c1 := HSK.out wr hb0w
        obtain ⟨b0, o0, ak, ck, rfl, hb0, hc, hg⟩ := (HLS0.out wr hb0w).row i HNI.out
        rw [← HLE.out] at hc
        by_cases hjt : j < L
        · have hjt2 : (j : Int) < (L : Int) := by omega
          have hjs : IntKind.i64.wrap ((j : Int) + 1) = (j : Int) + 1 := by rw [IntKind.wrap_i64]; omega
          obtain ⟨b1, o1, rfl, hb1, g0, g1, g2⟩ := hg.row j (by rw [← HLE.out]; exact hjt)
          obtain ⟨⟨hk0, hk1⟩, ⟨ha0, ha1⟩, hb0', hb1'⟩ := HGO.out j hjt
          have HFE1 := hid (HFK.out j)
          generalize gat (lyt lys i) j = g at *
          obtain ⟨gk, ga0, gb0⟩ := g
          simp only at g0 g1 g2 ha0 hb0' ha1 hb1' HFE1 hk0 hk1
          obtain ⟨ga, rfl⟩ : ∃ ga : Nat, ga0 = (ga : Int) := ⟨ga0.toNat, by omega⟩
          obtain ⟨gb, rfl⟩ : ∃ gb : Nat, gb0 = (gb : Int) := ⟨gb0.toNat, by omega⟩
          rw [Int.toNat_natCast, Int.toNat_natCast] at HFE1
          obtain ⟨bl, ol, rfl, hbl, hxa⟩ := HLL0.out.row ga (by rw [← HLQ.out]; omega)
          obtain ⟨bl', ol', hal, hbl', hxb⟩ := HLL0.out.row gb (by rw [← HLQ.out]; omega)
          injection hal with hal
          injection hal with hal1 hal2 _
          subst hal1
          subst hal2
          obtain ⟨fa1, fa2⟩ := HFT.out.all ga
          obtain ⟨fb1, fb2⟩ := HFT.out.all gb
          generalize zat (gvs p lys inputs i) ga = xa at *
          generalize zat (gvs p lys inputs i) gb = xb at *
          obtain ⟨W3, hW3⟩ : ∃ W3, W3 = wr.alloc (.cells #[.int .i64 gk, .int .i64 (ga : Int), .int .i64 (gb : Int)] 85) := ⟨_, rfl⟩
          obtain ⟨hb2, hs2, hzb⟩ := own_blk hW3
          obtain ⟨B, hB⟩ : ∃ B, B = wr.heap.size := ⟨_, rfl⟩
          have HBEQ := hid hB
          rw [← hB] at hs2
          have HB3 : Hid (Below wo.heap.size wo W3) := hJ.out.2.trans (hb2.mono hJ.out.2.size)
          have HOW : Hid (∀ W, Below W3.heap.size W3 W → W.ownsRow wo.heap.size 3 1 _ (ls F j).length ((ls F j).map (Value.int .i64))) := fun W hW => own_step (own_step hJ.out.1 hb2) hW
          have HSB : Hid (∀ W, Below W3.heap.size W3 W → (W.cell? ⟨B, 0, none⟩ = some (.int .i64 gk) ∧ W.cell? ⟨B, 1, none⟩ = some (.int .i64 (ga : Int)) ∧ W.cell? ⟨B, 2, none⟩ = some (.int .i64 (gb : Int))) ∧ W.cell? ⟨bl, ol + ga, none⟩ = some (.int .i64 xa) ∧ W.cell? ⟨bl, ol + gb, none⟩ = some (.int .i64 xb)) := fun W hW => by
            have e1 := (hW.block B (by omega)).trans hs2
            have hbW : Below wo.heap.size wo W := HB3.out.trans (hW.mono HB3.out.size)
            exact ⟨⟨by simp [World.cell?, e1], by simp [World.cell?, e1], by simp [World.cell?, e1]⟩, (hbW.cell (p := ⟨bl, ol + ga, none⟩) hbl).trans hxa, (hbW.cell (p := ⟨bl, ol + gb, none⟩) hbl).trans hxb⟩
          have HAD : Hid (∀ W : World, Calls Tryz.prog 46 #[.int .i64 (p : Int), .int .i64 xa, .int .i64 xb] W fun e w' => e = .returned (.int .i64 ((xa + xb) % (p : Int))) ∧ w' = W) := fun W => radd_any p xa xb W h3 hm fa1 fa2 fb1 fb2
          have HMU : Hid (∀ W : World, Calls Tryz.prog 45 #[.int .i64 (p : Int), .int .i64 xa, .int .i64 xb] W fun e w' => e = .returned (.int .i64 (xa * xb % (p : Int))) ∧ w' = W) := fun W => rmul_any p xa xb W h3 hm fa1 fa2 fb1 fb2
          have HLS := hid (ls_succ F j)
          have HLL := hid (ls_len F j)
          have d0 := (HSB.out W3.drew ((Below.refl _ _).drew)).1.1
          have hgar : (ga : Int) < (ll : Int) := by omega
          have hgbr : (gb : Int) < (ll : Int) := by omega
          by_cases hk : gk = 1
          · have hkb : (gk == 1) = true := by rw [hk]; rfl
            have HFX : Hid (F j = xa * xb % (p : Int)) := by unfold Hid; rw [HFE1.out]; unfold jnz; rw [if_neg (by omega)]
            have HD1 : Hid (Below W3.heap.size W3 W3.drew) := (Below.refl _ _).drew
            have HD2 : Hid (Below W3.heap.size W3 W3.drew.drew) := HD1.out.drew
            have HBD : Hid (Below wo.heap.size wo W3.drew.drew) := HB3.out.trans (HD2.out.mono HB3.out.size)
            have HOD := hid (HOW.out _ HD2.out)
            rw [← HFX.out] at HMU
            generalize hE : F j = E at *
            generalize (xa + xb) % (p : Int) = E0 at *
            clear hJ hb2 hs2 hzb hB hxa hxb hg HFE1 hk0 hk1 ha0 ha1 hb0' hb1' hk fa1 fa2 fb1 fb2 HFX hE
            go_wp2_with fail
            rw [← hW3, ← HBEQ.out]
            clear hW3 g0 g1 g2
            refine wp_region_held_drew (S := fun W => (W.cell? ⟨B, 0, none⟩ = some (.int .i64 gk) ∧ W.cell? ⟨B, 1, none⟩ = some (.int .i64 (ga : Int)) ∧ W.cell? ⟨B, 2, none⟩ = some (.int .i64 (gb : Int))) ∧ W.cell? ⟨bl, ol + ga, none⟩ = some (.int .i64 xa) ∧ W.cell? ⟨bl, ol + gb, none⟩ = some (.int .i64 xb)) (by kernel_rfl) (HSB.out _ HD1.out) (fun hHeld => ?_)
            refine wpAnyH_takeU (i := 0) (v := .int .i64 (p : Int)) rfl (by kernel_rfl) (by kernel_rfl) (by kernel_rfl) (fun _ _ _ h => h) (by rfl) (fun W hC => by go_simp) hHeld ?_
            simp only [Act.put, List.setIfInBounds_toArray, List.set_cons_zero, List.set_cons_succ]
            refine wpAnyH_takeU (i := 1) (v := .slice (some ⟨bl, ol, none⟩) ll cl) rfl (by kernel_rfl) (by kernel_rfl) (by kernel_rfl) (fun _ _ _ h => h) (by rfl) (fun W hC => by go_simp) hHeld ?_
            simp only [Act.put, List.setIfInBounds_toArray, List.set_cons_zero, List.set_cons_succ]
            refine wpAnyH_takeU (i := 2) (v := .pointer (some ⟨B, 1, none⟩)) rfl (by kernel_rfl) (by kernel_rfl) (by kernel_rfl) (fun _ _ _ h => h) (by rfl) (fun W hC => by go_simp) hHeld ?_
            simp only [Act.put, List.setIfInBounds_toArray, List.set_cons_zero, List.set_cons_succ]
            refine wpAnyH_takeU (i := 3) (v := .int .i64 (ga : Int)) rfl (by kernel_rfl) (by kernel_rfl) (by kernel_rfl) (fun _ _ _ h => h) (by rfl) (fun W hC => by (obtain ⟨⟨x1, x2, x3⟩, x4, x5⟩ := hC); go_simp) hHeld ?_
            simp only [Act.put, List.setIfInBounds_toArray, List.set_cons_zero, List.set_cons_succ]
            refine wpAnyH_takeU (i := 4) (v := .pointer (some ⟨bl, ol + ga, none⟩)) rfl (by kernel_rfl) (by kernel_rfl) (by kernel_rfl) (fun _ _ _ h => h) (by rfl) (fun W hC => by go_simp) hHeld ?_
            simp only [Act.put, List.setIfInBounds_toArray, List.set_cons_zero, List.set_cons_succ]
            refine wpAnyH_takeU (i := 5) (v := .int .i64 xa) rfl (by kernel_rfl) (by kernel_rfl) (by kernel_rfl) (fun _ _ _ h => h) (by rfl) (fun W hC => by (obtain ⟨⟨x1, x2, x3⟩, x4, x5⟩ := hC); go_simp) hHeld ?_
            simp only [Act.put, List.setIfInBounds_toArray, List.set_cons_zero, List.set_cons_succ]
            refine wpAnyH_takeU (i := 6) (v := .slice (some ⟨bl, ol, none⟩) ll cl) rfl (by kernel_rfl) (by kernel_rfl) (by kernel_rfl) (fun _ _ _ h => h) (by rfl) (fun W hC => by go_simp) hHeld ?_
            simp only [Act.put, List.setIfInBounds_toArray, List.set_cons_zero, List.set_cons_succ]
            refine wpAnyH_takeU (i := 7) (v := .pointer (some ⟨B, 2, none⟩)) rfl (by kernel_rfl) (by kernel_rfl) (by kernel_rfl) (fun _ _ _ h => h) (by rfl) (fun W hC => by go_simp) hHeld ?_
            simp only [Act.put, List.setIfInBounds_toArray, List.set_cons_zero, List.set_cons_succ]
            refine wpAnyH_takeU (i := 8) (v := .int .i64 (gb : Int)) rfl (by kernel_rfl) (by kernel_rfl) (by kernel_rfl) (fun _ _ _ h => h) (by rfl) (fun W hC => by (obtain ⟨⟨x1, x2, x3⟩, x4, x5⟩ := hC); go_simp) hHeld ?_
            simp only [Act.put, List.setIfInBounds_toArray, List.set_cons_zero, List.set_cons_succ]
            refine wpAnyH_takeU (i := 9) (v := .pointer (some ⟨bl, ol + gb, none⟩)) rfl (by kernel_rfl) (by kernel_rfl) (by kernel_rfl) (fun _ _ _ h => h) (by rfl) (fun W hC => by go_simp) hHeld ?_
            simp only [Act.put, List.setIfInBounds_toArray, List.set_cons_zero, List.set_cons_succ]
            refine wpAnyH_takeU (i := 10) (v := .int .i64 xb) rfl (by kernel_rfl) (by kernel_rfl) (by kernel_rfl) (fun _ _ _ h => h) (by rfl) (fun W hC => by (obtain ⟨⟨x1, x2, x3⟩, x4, x5⟩ := hC); go_simp) hHeld ?_
            simp only [Act.put, List.setIfInBounds_toArray, List.set_cons_zero, List.set_cons_succ]
            refine wpAnyH_ready (rs := [11]) (by kernel_rfl) (by simp) ?_
            refine AllReadyH.consU rfl (fun K' hK' => ?_) AllReadyH.nil
            go_simp
            refine (HAD.out _).mono ?_
            rintro e w3 ⟨rfl, hw3⟩
            have hw3' := hw3.symm
            subst hw3'
            clear hw3
            refine hK'.out _ _ (hHeld) (fun hHeld => ?_)
            clear hK' K'
            refine wpAnyH_ready (rs := [12]) (by kernel_rfl) (by simp) ?_
            refine AllReadyH.consU rfl (fun K' hK' => ?_) AllReadyH.nil
            go_simp
            refine hK'.out _ _ (hHeld) (fun hHeld => ?_)
            clear hK' K'
            refine wpAnyH_done (by kernel_rfl) ?_ _
            go_wp2_with fail
            refine wp_region_held_drew (S := fun W => (W.cell? ⟨B, 0, none⟩ = some (.int .i64 gk) ∧ W.cell? ⟨B, 1, none⟩ = some (.int .i64 (ga : Int)) ∧ W.cell? ⟨B, 2, none⟩ = some (.int .i64 (gb : Int))) ∧ W.cell? ⟨bl, ol + ga, none⟩ = some (.int .i64 xa) ∧ W.cell? ⟨bl, ol + gb, none⟩ = some (.int .i64 xb)) (by kernel_rfl) (HSB.out _ HD2.out) (fun hHeld => ?_)
            refine wpAnyH_takeU (i := 0) (v := .int .i64 (p : Int)) rfl (by kernel_rfl) (by kernel_rfl) (by kernel_rfl) (fun _ _ _ h => h) (by rfl) (fun W hC => by go_simp) hHeld ?_
            simp only [Act.put, List.setIfInBounds_toArray, List.set_cons_zero, List.set_cons_succ]
            refine wpAnyH_takeU (i := 1) (v := .slice (some ⟨bl, ol, none⟩) ll cl) rfl (by kernel_rfl) (by kernel_rfl) (by kernel_rfl) (fun _ _ _ h => h) (by rfl) (fun W hC => by go_simp) hHeld ?_
            simp only [Act.put, List.setIfInBounds_toArray, List.set_cons_zero, List.set_cons_succ]
            refine wpAnyH_takeU (i := 2) (v := .pointer (some ⟨B, 1, none⟩)) rfl (by kernel_rfl) (by kernel_rfl) (by kernel_rfl) (fun _ _ _ h => h) (by rfl) (fun W hC => by go_simp) hHeld ?_
            simp only [Act.put, List.setIfInBounds_toArray, List.set_cons_zero, List.set_cons_succ]
            refine wpAnyH_takeU (i := 3) (v := .int .i64 (ga : Int)) rfl (by kernel_rfl) (by kernel_rfl) (by kernel_rfl) (fun _ _ _ h => h) (by rfl) (fun W hC => by (obtain ⟨⟨x1, x2, x3⟩, x4, x5⟩ := hC); go_simp) hHeld ?_
            simp only [Act.put, List.setIfInBounds_toArray, List.set_cons_zero, List.set_cons_succ]
            refine wpAnyH_takeU (i := 4) (v := .pointer (some ⟨bl, ol + ga, none⟩)) rfl (by kernel_rfl) (by kernel_rfl) (by kernel_rfl) (fun _ _ _ h => h) (by rfl) (fun W hC => by go_simp) hHeld ?_
            simp only [Act.put, List.setIfInBounds_toArray, List.set_cons_zero, List.set_cons_succ]
            refine wpAnyH_takeU (i := 5) (v := .int .i64 xa) rfl (by kernel_rfl) (by kernel_rfl) (by kernel_rfl) (fun _ _ _ h => h) (by rfl) (fun W hC => by (obtain ⟨⟨x1, x2, x3⟩, x4, x5⟩ := hC); go_simp) hHeld ?_
            simp only [Act.put, List.setIfInBounds_toArray, List.set_cons_zero, List.set_cons_succ]
            refine wpAnyH_takeU (i := 6) (v := .slice (some ⟨bl, ol, none⟩) ll cl) rfl (by kernel_rfl) (by kernel_rfl) (by kernel_rfl) (fun _ _ _ h => h) (by rfl) (fun W hC => by go_simp) hHeld ?_
            simp only [Act.put, List.setIfInBounds_toArray, List.set_cons_zero, List.set_cons_succ]
            refine wpAnyH_takeU (i := 7) (v := .pointer (some ⟨B, 2, none⟩)) rfl (by kernel_rfl) (by kernel_rfl) (by kernel_rfl) (fun _ _ _ h => h) (by rfl) (fun W hC => by go_simp) hHeld ?_
            simp only [Act.put, List.setIfInBounds_toArray, List.set_cons_zero, List.set_cons_succ]
            refine wpAnyH_takeU (i := 8) (v := .int .i64 (gb : Int)) rfl (by kernel_rfl) (by kernel_rfl) (by kernel_rfl) (fun _ _ _ h => h) (by rfl) (fun W hC => by (obtain ⟨⟨x1, x2, x3⟩, x4, x5⟩ := hC); go_simp) hHeld ?_
            simp only [Act.put, List.setIfInBounds_toArray, List.set_cons_zero, List.set_cons_succ]
            refine wpAnyH_takeU (i := 9) (v := .pointer (some ⟨bl, ol + gb, none⟩)) rfl (by kernel_rfl) (by kernel_rfl) (by kernel_rfl) (fun _ _ _ h => h) (by rfl) (fun W hC => by go_simp) hHeld ?_
            simp only [Act.put, List.setIfInBounds_toArray, List.set_cons_zero, List.set_cons_succ]
            refine wpAnyH_takeU (i := 10) (v := .int .i64 xb) rfl (by kernel_rfl) (by kernel_rfl) (by kernel_rfl) (fun _ _ _ h => h) (by rfl) (fun W hC => by (obtain ⟨⟨x1, x2, x3⟩, x4, x5⟩ := hC); go_simp) hHeld ?_
            simp only [Act.put, List.setIfInBounds_toArray, List.set_cons_zero, List.set_cons_succ]
            refine wpAnyH_ready (rs := [11]) (by kernel_rfl) (by simp) ?_
            refine AllReadyH.consU rfl (fun K' hK' => ?_) AllReadyH.nil
            go_simp
            refine (HMU.out _).mono ?_
            rintro e w3 ⟨rfl, hw3⟩
            have hw3' := hw3.symm
            subst hw3'
            clear hw3
            refine hK'.out _ _ (hHeld) (fun hHeld => ?_)
            clear hK' K'
            refine wpAnyH_ready (rs := [12]) (by kernel_rfl) (by simp) ?_
            refine AllReadyH.consU rfl (fun K' hK' => ?_) AllReadyH.nil
            go_simp
            refine hK'.out _ _ (hHeld) (fun hHeld => ?_)
            clear hK' K'
            refine wpAnyH_done (by kernel_rfl) ?_ _
            obtain ⟨WD, hWD⟩ : ∃ WD, WD = W3.drew.drew := ⟨_, rfl⟩
            rw [← hWD] at HOD HBD ⊢
            clear hWD
            go_wp2_with (at_builtin; refine wpList_append_own _ rfl _ _ 23 rfl wo.heap.size 3 i0 (.int .i64 0) 1 8 Tryz.underlying23 hi0 hz0 hz1 hz2 rfl (by decide) _ _ _ rfl (HOD.out.alloc _) ⟨WD.heap.size, 0, none⟩ 1 1 [.int .i64 E] rfl rfl ?c1 ?c2 ?c3 ?c4 ?c5 ?_)
            case c1 =>
              intro j u hj
              match j, hj with
              | 0, hj => simp at hj; subst hj; simp [Addr.add]
            case c2 => intro u hu; simp at hu; subst hu; rfl
            case c3 => have := HLL.out; unfold maxLen; omega
            case c4 => have := HLL.out; omega
            case c5 => have := HBD.out.size; simp; omega
            intro v' w2 hown2 hgrow _
            have hown3 := owns_succ hown2
            have HBE : Hid (Below wo.heap.size wo w2) := (HBD.out.alloc HBD.out.size _).grown hgrow (by have := HBD.out.size; simp; omega) (fun k hk => (HOD.out.lt k hk).1)
            have HO := hid hown3
            clear hown2 hown3 hgrow
            go_wp2_with fail
            go_roundw
            case rel => exact ⟨j + 1, by omega, by go_num, by rw [HLS.out]; exact HO.out, HBE.out⟩
            case measure => simp [intOf]; omega
          · have hkb : (gk == 1) = false := by rw [beq_eq_false_iff_ne]; exact hk
            have HFX : Hid (F j = (xa + xb) % (p : Int)) := by unfold Hid; rw [HFE1.out]; unfold jnz; rw [if_pos (by omega)]
            have HD1 : Hid (Below W3.heap.size W3 W3.drew) := (Below.refl _ _).drew
            have HBD : Hid (Below wo.heap.size wo W3.drew) := HB3.out.trans (HD1.out.mono HB3.out.size)
            have HOD := hid (HOW.out _ HD1.out)
            rw [← HFX.out] at HAD
            generalize hE : F j = E at *
            clear hJ hb2 hs2 hzb hB hxa hxb hg HFE1 hk0 hk1 ha0 ha1 hb0' hb1' hk fa1 fa2 fb1 fb2 HFX hE HMU
            go_wp2_with fail
            rw [← hW3, ← HBEQ.out]
            clear hW3 g0 g1 g2
            refine wp_region_held_drew (S := fun W => (W.cell? ⟨B, 0, none⟩ = some (.int .i64 gk) ∧ W.cell? ⟨B, 1, none⟩ = some (.int .i64 (ga : Int)) ∧ W.cell? ⟨B, 2, none⟩ = some (.int .i64 (gb : Int))) ∧ W.cell? ⟨bl, ol + ga, none⟩ = some (.int .i64 xa) ∧ W.cell? ⟨bl, ol + gb, none⟩ = some (.int .i64 xb)) (by kernel_rfl) (HSB.out _ HD1.out) (fun hHeld => ?_)
            refine wpAnyH_takeU (i := 0) (v := .int .i64 (p : Int)) rfl (by kernel_rfl) (by kernel_rfl) (by kernel_rfl) (fun _ _ _ h => h) (by rfl) (fun W hC => by go_simp) hHeld ?_
            simp only [Act.put, List.setIfInBounds_toArray, List.set_cons_zero, List.set_cons_succ]
            refine wpAnyH_takeU (i := 1) (v := .slice (some ⟨bl, ol, none⟩) ll cl) rfl (by kernel_rfl) (by kernel_rfl) (by kernel_rfl) (fun _ _ _ h => h) (by rfl) (fun W hC => by go_simp) hHeld ?_
            simp only [Act.put, List.setIfInBounds_toArray, List.set_cons_zero, List.set_cons_succ]
            refine wpAnyH_takeU (i := 2) (v := .pointer (some ⟨B, 1, none⟩)) rfl (by kernel_rfl) (by kernel_rfl) (by kernel_rfl) (fun _ _ _ h => h) (by rfl) (fun W hC => by go_simp) hHeld ?_
            simp only [Act.put, List.setIfInBounds_toArray, List.set_cons_zero, List.set_cons_succ]
            refine wpAnyH_takeU (i := 3) (v := .int .i64 (ga : Int)) rfl (by kernel_rfl) (by kernel_rfl) (by kernel_rfl) (fun _ _ _ h => h) (by rfl) (fun W hC => by (obtain ⟨⟨x1, x2, x3⟩, x4, x5⟩ := hC); go_simp) hHeld ?_
            simp only [Act.put, List.setIfInBounds_toArray, List.set_cons_zero, List.set_cons_succ]
            refine wpAnyH_takeU (i := 4) (v := .pointer (some ⟨bl, ol + ga, none⟩)) rfl (by kernel_rfl) (by kernel_rfl) (by kernel_rfl) (fun _ _ _ h => h) (by rfl) (fun W hC => by go_simp) hHeld ?_
            simp only [Act.put, List.setIfInBounds_toArray, List.set_cons_zero, List.set_cons_succ]
            refine wpAnyH_takeU (i := 5) (v := .int .i64 xa) rfl (by kernel_rfl) (by kernel_rfl) (by kernel_rfl) (fun _ _ _ h => h) (by rfl) (fun W hC => by (obtain ⟨⟨x1, x2, x3⟩, x4, x5⟩ := hC); go_simp) hHeld ?_
            simp only [Act.put, List.setIfInBounds_toArray, List.set_cons_zero, List.set_cons_succ]
            refine wpAnyH_takeU (i := 6) (v := .slice (some ⟨bl, ol, none⟩) ll cl) rfl (by kernel_rfl) (by kernel_rfl) (by kernel_rfl) (fun _ _ _ h => h) (by rfl) (fun W hC => by go_simp) hHeld ?_
            simp only [Act.put, List.setIfInBounds_toArray, List.set_cons_zero, List.set_cons_succ]
            refine wpAnyH_takeU (i := 7) (v := .pointer (some ⟨B, 2, none⟩)) rfl (by kernel_rfl) (by kernel_rfl) (by kernel_rfl) (fun _ _ _ h => h) (by rfl) (fun W hC => by go_simp) hHeld ?_
            simp only [Act.put, List.setIfInBounds_toArray, List.set_cons_zero, List.set_cons_succ]
            refine wpAnyH_takeU (i := 8) (v := .int .i64 (gb : Int)) rfl (by kernel_rfl) (by kernel_rfl) (by kernel_rfl) (fun _ _ _ h => h) (by rfl) (fun W hC => by (obtain ⟨⟨x1, x2, x3⟩, x4, x5⟩ := hC); go_simp) hHeld ?_
            simp only [Act.put, List.setIfInBounds_toArray, List.set_cons_zero, List.set_cons_succ]
            refine wpAnyH_takeU (i := 9) (v := .pointer (some ⟨bl, ol + gb, none⟩)) rfl (by kernel_rfl) (by kernel_rfl) (by kernel_rfl) (fun _ _ _ h => h) (by rfl) (fun W hC => by go_simp) hHeld ?_
            simp only [Act.put, List.setIfInBounds_toArray, List.set_cons_zero, List.set_cons_succ]
            refine wpAnyH_takeU (i := 10) (v := .int .i64 xb) rfl (by kernel_rfl) (by kernel_rfl) (by kernel_rfl) (fun _ _ _ h => h) (by rfl) (fun W hC => by (obtain ⟨⟨x1, x2, x3⟩, x4, x5⟩ := hC); go_simp) hHeld ?_
            simp only [Act.put, List.setIfInBounds_toArray, List.set_cons_zero, List.set_cons_succ]
            refine wpAnyH_ready (rs := [11]) (by kernel_rfl) (by simp) ?_
            refine AllReadyH.consU rfl (fun K' hK' => ?_) AllReadyH.nil
            go_simp
            refine (HAD.out _).mono ?_
            rintro e w3 ⟨rfl, hw3⟩
            have hw3' := hw3.symm
            subst hw3'
            clear hw3
            refine hK'.out _ _ (hHeld) (fun hHeld => ?_)
            clear hK' K'
            refine wpAnyH_ready (rs := [12]) (by kernel_rfl) (by simp) ?_
            refine AllReadyH.consU rfl (fun K' hK' => ?_) AllReadyH.nil
            go_simp
            refine hK'.out _ _ (hHeld) (fun hHeld => ?_)
            clear hK' K'
            refine wpAnyH_done (by kernel_rfl) ?_ _
            obtain ⟨WD, hWD⟩ : ∃ WD, WD = W3.drew := ⟨_, rfl⟩
            rw [← hWD] at HOD HBD d0 ⊢
            clear hWD
            go_wp2_with (at_builtin; refine wpList_append_own _ rfl _ _ 23 rfl wo.heap.size 3 i0 (.int .i64 0) 1 8 Tryz.underlying23 hi0 hz0 hz1 hz2 rfl (by decide) _ _ _ rfl (HOD.out.alloc _) ⟨WD.heap.size, 0, none⟩ 1 1 [.int .i64 E] rfl rfl ?c1 ?c2 ?c3 ?c4 ?c5 ?_)
            case c1 =>
              intro j u hj
              match j, hj with
              | 0, hj => simp at hj; subst hj; simp [Addr.add]
            case c2 => intro u hu; simp at hu; subst hu; rfl
            case c3 => have := HLL.out; unfold maxLen; omega
            case c4 => have := HLL.out; omega
            case c5 => have := HBD.out.size; simp; omega
            intro v' w2 hown2 hgrow _
            have hown3 := owns_succ hown2
            have HBE : Hid (Below wo.heap.size wo w2) := (HBD.out.alloc HBD.out.size _).grown hgrow (by have := HBD.out.size; simp; omega) (fun k hk => (HOD.out.lt k hk).1)
            have HO := hid hown3
            clear hown2 hown3 hgrow
            go_wp2_with fail
            go_roundw
            case rel => exact ⟨j + 1, by omega, by go_num, by rw [HLS.out]; exact HO.out, HBE.out⟩
            case measure => simp [intOf]; omega
        · obtain rfl : j = L := by omega
          have hjt2 : ¬ (j : Int) < (j : Int) := by omega
          have hSL := slr_of_owns hJ.out.1
          rw [HFE.out] at hSL
          have HOK := hid (HOO.out.keep hJ.out.2)
          have HBW : Hid (Below W0.heap.size W0 wr) := hb0w
          obtain ⟨an', cn, hvn, _⟩ := hSL.lst
          subst hvn
          have HSL := hid hSL
          have HGL2 : Hid ((gva p lys inputs (i + 1)).length = i + 1) := gva_len _ _ _ _
          have HGS2 : Hid (gva p lys inputs (i + 1 + 1) = gva p lys inputs (i + 1) ++ [gvs p lys inputs (i + 1)]) := gva_succ _ _ _ _
          clear hJ hSL hb0w hg
          go_wp2_with (at_builtin; refine wpList_row1 wr W0.heap.size rfl _ _ rfl _ _ (gva p lys inputs (i + 1)) (gvs p lys inputs (i + 1)) HOK.out HSL.out rfl rfl (by rw [HGL2.out]; omega) HBW.out.size ?_)
          intro v' w2 hown hbel hnr
          rw [← HGS2.out] at hown
          have HE := hid (And.intro (HSL.out.blocks hbel.size hnr) (And.intro hown (HBW.out.trans hbel)))
          clear hown hbel hnr
          go_wp2_with fail
          go_roundw
          case rel => exact ⟨i + 1, by omega, by go_num, HE.out⟩
          case measure => simp [intOf]; omega
    · obtain rfl : i = n := by omega
      have hit2 : ¬ (i : Int) < (i : Int) := by omega
      have HE := hid (And.intro (hI.out.2.1.mono HB0.out.size) (HBK.out _ hI.out.2.2))
      clear hI
      go_wp2_with fail
      go_ret
      exact ⟨_, rfl, HE.out⟩

end Go.Proofs.YtpgnabmkfkcogaaGreatDoor

namespace Go.Proofs.YtpgnabmkfkcogaaGreatDoor
open Go.RowKit

/-- bits that are laid from the end on -/
def btl (n I s j : Nat) : Int := if n - s ≤ j then bitz n I j else 0
theorem btl_next {n I s k j : Nat} (hk : k + 1 + s = n) (hj : j < n) : (if j = k then ((I / 2 ^ s % 2 : Nat) : Int) else btl n I s j) = btl n I (s + 1) j := by
  unfold btl
  by_cases e : j = k
  · subst e
    rw [if_pos rfl, if_pos (by omega)]
    unfold bitz
    rw [show n - 1 - j = s from by omega]
  · rw [if_neg e]
    by_cases h : n - s ≤ j
    · rw [if_pos h, if_pos (by omega)]
    · rw [if_neg h, if_neg (by omega)]

set_option maxRecDepth 100000 in
set_option maxHeartbeats 1000000 in
theorem rbits_any (I n : Nat) (w : World) (hn : n ≤ 6) (hI : I ≤ 281474976710656) :
    Calls Tryz.prog 155 #[.int .i64 (I : Int), .int .i64 (n : Int)] w fun e w' => e = .returned (.slice (some ⟨w.heap.size, 0, none⟩) n n) ∧ ArrI w' w.heap.size 3 n (bitz n I) ∧ Below w.heap.size w w' := by
  have hmk2 := fun w => run_make_row' (P := Tryz.prog) 23 3 (.int .i64 0) 8 Tryz.underlying23 Tryz.infoInt rfl .i64 .i64 n (by omega) (by omega) w
  have HAM : Hid (ArrI (w.alloc (.cells (madeCells #[.int .i64 0] n) 3)) w.heap.size 3 n (btl n I 0)) := (World.rowIs_made _ _ _ _).congr (fun j hj => by unfold btl; rw [if_neg (by omega)])
  have HBM : Hid (Below w.heap.size w (w.alloc (.cells (madeCells #[.int .i64 0] n) 3))) := (Below.refl _ _).alloc (Nat.le_refl _) _
  have hn1 : IntKind.i64.wrap ((n : Int) - 1) = (n : Int) - 1 := by rw [IntKind.wrap_i64]; omega
  go_enter Tryz.func155, Tryz.ntmps155
  go_wp2_with fail
  generalize w.alloc (.cells (madeCells #[.int .i64 0] n) 3) = W1 at *
  go_loopw [0, 6] (fun xv kv wr => ∃ s : Nat, s ≤ n ∧ (∃ K : Int, kv = .int .i64 K ∧ Hid (K = (n : Int) - 1 - (s : Int))) ∧ (∃ X : Nat, xv = .int .i64 (X : Int) ∧ X ≤ 281474976710656 ∧ Hid (X = I / 2 ^ s)) ∧ Hid (ArrI wr w.heap.size 3 n (btl n I s) ∧ Below w.heap.size w wr)) (fun _ kv _ => (intOf kv + 1).toNat)
  case atStart => exact ⟨0, by omega, ⟨_, rfl, by unfold Hid; omega⟩, ⟨I, rfl, hI, by unfold Hid; simp⟩, HAM.out, HBM.out⟩
  case round =>
    obtain ⟨s, hs, ⟨K, rfl, hK⟩, ⟨X, rfl, hX, hXe⟩, hJ⟩ := hrel
    by_cases hlt : s < n
    · obtain ⟨k, hk⟩ : ∃ k : Nat, k = n - 1 - s := ⟨_, rfl⟩
      have hKk : K = (k : Int) := by rw [hK.out]; omega
      subst hKk
      have k0 : (0 : Int) ≤ (k : Int) := by omega
      have hkn : k < n := by omega
      have hkn2 : (k : Int) < (n : Int) := by omega
      have m1 : (X : Int).tmod 2 = ((X % 2 : Nat) : Int) := by rw [Int.tmod_eq_emod_of_nonneg (by omega)]; omega
      have m2 : (X : Int) % 2 = ((X % 2 : Nat) : Int) := by omega
      have d1 : (X : Int).tdiv 2 = ((X / 2 : Nat) : Int) := by rw [Int.tdiv_eq_ediv_of_nonneg (by omega)]; omega
      have d2 : (X : Int) / 2 = ((X / 2 : Nat) : Int) := by omega
      have w1 : IntKind.i64.wrap ((k : Int) - 1) = (k : Int) - 1 := by rw [IntKind.wrap_i64]; omega
      have w2 : IntKind.i64.wrap ((X / 2 : Nat) : Int) = ((X / 2 : Nat) : Int) := by rw [IntKind.wrap_i64]; omega
      have w3 : IntKind.i64.wrap ((X % 2 : Nat) : Int) = ((X % 2 : Nat) : Int) := by rw [IntKind.wrap_i64]; omega
      have c1 := hJ.out.1.cell hkn
      have y1 := hJ.out.1.frozen k
      have HA2 : Hid (ArrI (wr.setCell ⟨w.heap.size, k, none⟩ (.int .i64 ((X % 2 : Nat) : Int))) w.heap.size 3 n (btl n I (s + 1))) := (World.rowIs.set hJ.out.1 k (.int .i64 ((X % 2 : Nat) : Int))).congr (fun j hj => by
        have := btl_next (n := n) (I := I) (s := s) (k := k) (j := j) (by omega) hj
        rw [← hXe.out] at this
        rw [← this]
        by_cases e : j = k <;> simp [e])
      have HBL := hid (hJ.out.2.setCell (p := ⟨w.heap.size, k, none⟩) (by simp) (.int .i64 ((X % 2 : Nat) : Int)))
      have HK2 : Hid ((k : Int) - 1 = (n : Int) - 1 - ((s + 1 : Nat) : Int)) := by unfold Hid; omega
      have HX2 : Hid (X / 2 = I / 2 ^ (s + 1)) := by unfold Hid; rw [hXe.out, Nat.pow_succ, Nat.div_div_eq_div_mul]
      have hX2 : X / 2 ≤ 281474976710656 := by omega
      generalize X % 2 = r at *
      generalize X / 2 = q at *
      generalize btl n I s k = y0 at *
      clear hJ hXe hK hk
      go_wp2_with fail
      go_roundw
      case rel => exact ⟨s + 1, by omega, ⟨_, rfl, HK2.out⟩, ⟨q, by first | rfl | go_num, hX2, HX2.out⟩, HA2.out, HBL.out⟩
      case measure => simp [intOf]
    · obtain rfl : s = n := by omega
      have k0 : ¬ (0 : Int) ≤ K := by rw [hK.out]; omega
      have HE : Hid (ArrI wr w.heap.size 3 s (bitz s I) ∧ Below w.heap.size w wr) := ⟨World.rowIs.congr hJ.out.1 (fun j hj => by unfold btl; rw [if_pos (by omega)]), hJ.out.2⟩
      clear hJ hK
      go_wp2_with fail
      go_ret
      exact ⟨rfl, HE.out⟩

end Go.Proofs.YtpgnabmkfkcogaaGreatDoor
