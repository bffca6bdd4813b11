
import Derived.Test.YtlhjifpomchnfaaGreatDoorPoAG
import Derived.Test.YtlhjifpomchnfaaGreatDoorPoAF
set_option maxRecDepth 1000000
set_option maxHeartbeats 8000000
namespace Go.Proofs.YtlhjifpomchnfaaGreatDoor
open Go.RowKit
def fs : Code -> Code
 | .seq a _ => a
 | c => c
def RootIH (q n d b s g B : Nat) (D : Nat -> Nat -> List Int) (M0 : Nat -> Nat -> Option (List Int)) (x m : Nat) : Prop := ∀ (M : Nat -> Nat -> Option (List Int)) (w : World), SpgAt w s b q n d -> WlkAt w g B s -> MapIs w B M -> Sub M0 M -> Snd M D -> Calls Tryz.prog 163 #[.pointer (some ⟨g, 0, none⟩), gk x m] w (RootR D M B x m w)
theorem root5 (q n d b s g B x y c m w3s : Nat) (D : Nat -> Nat -> List Int) (M0 M : Nat -> Nat -> Option (List Int)) (w W3 : World) (ok : SpgOk q n d) (hD : ∀ a b, Dgst q (D a b)) (hm : m = x + lft c) (hc : y = x + c) (hx : x <= 1000000) (hy : y <= 1000000) (h2 : 2 <= c) (hDe : D x y = digl q n (1 :: (D x m ++ D m y)))
  (ih1 : RootIH q n d b s g B D M0 x m) (ih2 : RootIH q n d b s g B D M0 m y) (h0 : Sub M0 M) (hsn : Snd M D) (hM : MapIs W3 B M) (hs : SpgAt W3 s b q n d) (hw : WlkAt W3 g B s)
  (hk : W3.rowIs w.heap.size 201 2 (duo (.int .i64 (x : Int)) (.int .i64 (y : Int)))) (hr : ArrI W3 (w.heap.size + 1) 213 4 (fun _ => 0)) (hL : W3.rowIs w3s 201 2 (duo (.int .i64 (x : Int)) (.int .i64 (m : Int)))) (hR : W3.rowIs (w3s + 1) 201 2 (duo (.int .i64 (m : Int)) (.int .i64 (y : Int)))) (hgb : w.grownBy W3 (some B)) (hBl : B < w.heap.size) (hw3 : w.heap.size <= w3s) (K : Act -> World -> Prop) (hK : ∀ a w', (sq (sq (sq (sq rootCode)))).wp Tryz.prog (bodyPost Tryz.prog Tryz.f163 (RootR D M B x y w)) a w' -> K a w') :
  (fs (sq (sq (sq rootCode)))).wp Tryz.prog (Exit.then K (bodyPost Tryz.prog Tryz.f163 (RootR D M B x y w))) (rA5 g w.heap.size w3s B x m y (fun _ => undef)) W3 := by
 have hmx : Tryz.prog.follows .mixedOrders = true := by kernel_rfl
 have hBg : B ≠ g := fun e => by
  obtain ⟨es, ck, h1, _⟩ := hM
  unfold WlkAt at hw
  rw [e, hw] at h1
  cases h1
 have hBs : B ≠ s := fun e => by
  obtain ⟨es, ck, h1, _⟩ := hM
  have := hs.f
  rw [e] at h1
  simp [World.cell?, h1] at this
 have hBb : B ≠ b := fun e => by
  obtain ⟨es, ck, h1, _⟩ := hM
  have := hs.p
  rw [e] at h1
  simp [World.cell?, h1] at this
 have hsl := hs.lt
 have hbl := hs.ltb
 have hgl := hw.lt
 have hws := hgb.size
 have hll := hL.lt
 have hrl := hR.lt
 have hkl := hk.lt
 have hrsl := hr.lt
 have HI1 := hid ih1
 have HI2 := hid ih2
 have HS := hid hs
 have HW := hid hw
 have HLc := hid hL
 have HRc := hid hR
 have H0 := hid h0
 have HMM := hid hM
 have HSN := hid hsn
 have HK4 := hid hk
 have HAr4 := hid hr
 have HG3 := hid hgb
 have HFin : Hid (∀ (A A' : Nat) (W : World) (σ : Nat -> Value), σ 6 = .pointer (some ⟨A, 0, none⟩) -> σ 7 = .pointer (some ⟨A', 0, none⟩) -> ArrI W A 213 4 (zat (D x m)) -> ArrI W A' 213 4 (zat (D m y)) -> PMx D M B x m y true true W -> W3.grownBy W (some B) -> (sq (sq (sq (sq rootCode)))).wp Tryz.prog (bodyPost Tryz.prog Tryz.f163 (RootR D M B x y w)) (rA5 g w.heap.size w3s B x m y σ) W) :=
  fun A A' W σ e6 e7 hA2 hA4 hpm hg => root6 q n d b s g B x y c m A A' w3s D M w W σ ok hD hm hc hx hy h2 hDe e6 e7 hA2 hA4 hpm (HS.out.blocks (gb_blk hg hsl (Ne.symm hBs)) (gb_blk hg hbl (Ne.symm hBb))) (HW.out.block (gb_blk hg hgl (Ne.symm hBg))) (HK4.out.of_block (gb_blk hg hkl (by omega))) (HAr4.out.block (gb_blk hg hrsl (by omega))) (gb_trans HG3.out hg) hBl hBg
 clear hs hw hL hR h0 hM hsn hk hr hgb hDe ih1 ih2 hm hc hD ok
 refine wp_of_eq (c := .region 5 _ true) rfl ?_
 refine wp_region_any hmx ?_
 refine wpAny_invC (sInv D M g B x m y W3.heap.size W3 (rA5 g w.heap.size w3s B x m y)) ?step ?done (by kernel_rfl) _ _ ⟨fun _ => undef, rfl, gb_drew (gb_refl _ _), ⟨M, HMM.out, HSN.out, fun _ _ h => h, fun _ _ h => .inl h, fun h => by simp at h, fun h => by simp at h⟩, fun _ => ⟨by simp, fun k hk hl => ?first, fun h => by simp at h⟩, fun h => by simp at h, fun h => by simp at h⟩
 case first =>
  rcases Nat.lt_or_ge k 10 with g | g
  ·simp [g] at hl
  ·omega
 case step =>
  intro L a W hcl hI i hi
  obtain ⟨σ, rfl, hgb, hpm, hT, hF1, hF2⟩ := hI
  have hi10 : i < 10 := lt_of_ready hi
  have hun := unlisted_of_ready hi
  have hsz : i < L.size := by
   rcases Nat.lt_or_ge i L.size with g | g
   ·exact g
   ·have := (mem_ready.1 hi).1
    simp [Array.getElem?_eq_none g] at this
  have hWs := hgb.size
  by_cases h8 : i = 8
  ·subst h8
   have hd : ∀ k, depB .any _ 4 8 k = true -> L.getD k false = true := fun k hk => dep_of_ready hcl hi hk
   obtain ⟨h9, hTo, h67⟩ := hT hun
   have e2 := hTo 2 (by omega) (hd 2 (by kernel_rfl))
   have e5 := hTo 5 (by omega) (hd 5 (by kernel_rfl))
   obtain ⟨A, e6, hA1, hA2⟩ := hTo 6 (by omega) (hd 6 (by kernel_rfl))
   obtain ⟨A', e7, hA3, hA4⟩ := hTo 7 (by omega) (hd 7 (by kernel_rfl))
   have hne : A ≠ A' := fun e => h67 (hd 6 (by kernel_rfl)) (hd 7 (by kernel_rfl)) (by rw [e6, e7, e])
   simp only [sF] at e2 e5
   have z0 := hA2.cell (i := 0) (by omega)
   have z1 := hA2.cell (i := 1) (by omega)
   have z2 := hA2.cell (i := 2) (by omega)
   have z3 := hA2.cell (i := 3) (by omega)
   have y0 := hA2.frozen 0
   have y1 := hA2.frozen 1
   have y2 := hA2.frozen 2
   have y3 := hA2.frozen 3
   have HA5 := hid (arr4_set hA2 (zat (D x m)))
   have HA6 := hid (hA4.block (heap_set4 W A A' (Ne.symm hne) (.int .i64 (zat (D x m) 0)) (.int .i64 (zat (D x m) 1)) (.int .i64 (zat (D x m) 2)) (.int .i64 (zat (D x m) 3))))
   have HG5 := hid (gb_far (gb_far (gb_far (gb_far hgb hA1 0 (.int .i64 (zat (D x m) 0))) hA1 1 (.int .i64 (zat (D x m) 1))) hA1 2 (.int .i64 (zat (D x m) 2))) hA1 3 (.int .i64 (zat (D x m) 3)))
   have HP5 := hid (hpm.block (heap_set4 W A B (by omega) (.int .i64 (zat (D x m) 0)) (.int .i64 (zat (D x m) 1)) (.int .i64 (zat (D x m) 2)) (.int .i64 (zat (D x m) 3))))
   refine wpOp_step rfl (fun K' hK' => ?_)
   rw [if_pos (by rfl)]
   simp only [rA5, e2, e6, d4]
   clear hA2 hA4 hT hTo hF1 hF2
   go_simp
   refine hK' _ _ ⟨σ, by simp only [rA5, e2, e5, e6, e7, d4], HG5.out, ?_, fun h => ?_, fun _ _ => ⟨A, A', e6, e7, e5, hA1, hA3, hne, HA5.out, HA6.out⟩, fun h => ?_⟩
   ·rw [getD_set_other (by omega), getD_set_other (by omega)]; exact HP5.out
   ·rw [getD_set_same hsz] at h; cases h
   ·rw [getD_set_other (by omega), h9] at h; cases h
  by_cases h9 : i = 9
  ·subst h9
   have hd : ∀ k, depB .any _ 4 9 k = true -> L.getD k false = true := fun k hk => dep_of_ready hcl hi hk
   obtain ⟨A, A', e6, e7, e5, hA1, hA3, hne, hA2, hA4⟩ := hF1 (hd 8 (by kernel_rfl)) hun
   have z0 := hA4.cell (i := 0) (by omega)
   have z1 := hA4.cell (i := 1) (by omega)
   have z2 := hA4.cell (i := 2) (by omega)
   have z3 := hA4.cell (i := 3) (by omega)
   have y0 := hA4.frozen 0
   have y1 := hA4.frozen 1
   have y2 := hA4.frozen 2
   have y3 := hA4.frozen 3
   have HA5 := hid (arr4_set hA4 (zat (D m y)))
   have HA6 := hid (hA2.block (heap_set4 W A' A hne (.int .i64 (zat (D m y) 0)) (.int .i64 (zat (D m y) 1)) (.int .i64 (zat (D m y) 2)) (.int .i64 (zat (D m y) 3))))
   have HG5 := hid (gb_far (gb_far (gb_far (gb_far hgb hA3 0 (.int .i64 (zat (D m y) 0))) hA3 1 (.int .i64 (zat (D m y) 1))) hA3 2 (.int .i64 (zat (D m y) 2))) hA3 3 (.int .i64 (zat (D m y) 3)))
   have HP5 := hid (hpm.block (heap_set4 W A' B (by omega) (.int .i64 (zat (D m y) 0)) (.int .i64 (zat (D m y) 1)) (.int .i64 (zat (D m y) 2)) (.int .i64 (zat (D m y) 3))))
   refine wpOp_step rfl (fun K' hK' => ?_)
   rw [if_pos (by rfl)]
   simp only [rA5, e5, e7, d4]
   clear hA2 hA4 hT hF1 hF2
   go_simp
   refine hK' _ _ ⟨σ, by simp only [rA5, e5, e6, e7, d4], HG5.out, ?_, fun h => ?_, fun h => ?_, fun _ => ⟨A, A', e6, e7, e5, hA1, hA3, hne, HA6.out, HA5.out⟩⟩
   ·rw [getD_set_other (by omega), getD_set_other (by omega)]; exact HP5.out
   ·rw [getD_set_other (by omega), hd 8 (by kernel_rfl)] at h; cases h
   ·intro h'
    rw [getD_set_same hsz] at h'; cases h'
  have hn8 : L.getD 8 false = false := by
   rcases hx8 : L.getD 8 false with _ | _
   ·rfl
   ·have : L.getD i false = true := by
     have hdd : depB .any _ 4 8 i = true -> L.getD i false = true := fun hd => dep_listed hcl 4 8 hd (fun o ho => hcl 8 o ho hx8)
     have h14 : i = 0 ∨ i = 1 ∨ i = 2 ∨ i = 3 ∨ i = 4 ∨ i = 5 ∨ i = 6 ∨ i = 7 := by omega
     rcases h14 with rfl | rfl | rfl | rfl | rfl | rfl | rfl | rfl <;> exact hdd (by kernel_rfl)
    rw [hun] at this; cases this
  obtain ⟨hn9, hTo, h67⟩ := hT hn8
  clear hT hF1 hF2
  have hlc0 := (gb_cell hgb (p := ⟨w3s, 0, none⟩) (by show w3s < _; omega) (by show w3s ≠ B; omega)).trans (HLc.out.cell (i := 0) (by omega))
  have hlc1 := (gb_cell hgb (p := ⟨w3s, 1, none⟩) (by show w3s < _; omega) (by show w3s ≠ B; omega)).trans (HLc.out.cell (i := 1) (by omega))
  have hrc0 := (gb_cell hgb (p := ⟨w3s + 1, 0, none⟩) (by show w3s + 1 < _; omega) (by show w3s + 1 ≠ B; omega)).trans (HRc.out.cell (i := 0) (by omega))
  have hrc1 := (gb_cell hgb (p := ⟨w3s + 1, 1, none⟩) (by show w3s + 1 < _; omega) (by show w3s + 1 ≠ B; omega)).trans (HRc.out.cell (i := 1) (by omega))
  simp only [duo] at hlc0 hlc1 hrc0 hrc1
  have HSW : Hid (SpgAt W s b q n d) := HS.out.blocks (gb_blk hgb hsl (Ne.symm hBs)) (gb_blk hgb hbl (Ne.symm hBb))
  have HWW : Hid (WlkAt W g B s) := HW.out.block (gb_blk hgb hgl (Ne.symm hBg))
  have h14 : i = 0 ∨ i = 1 ∨ i = 2 ∨ i = 3 ∨ i = 4 ∨ i = 5 ∨ i = 6 ∨ i = 7 := by omega
  rcases h14 with rfl | rfl | rfl | rfl | rfl | rfl | rfl | rfl
  ·refine wpOp_step rfl (fun K' hK' => ?_)
   rw [if_pos (by rfl)]
   simp only [rA5]
   go_simp
   exact hK' _ _ (sInv_next (i := 0) (v := .pointer (some ⟨g, 0, none⟩)) (by omega) hn8 hn9 hTo hgb (fun _ _ h => h) rfl (by rw [getD_set_other (by omega), getD_set_other (by omega)]; exact hpm) (by rw [getD_set_other (by omega), getD_set_other (by omega)]; exact h67) rfl)
  ·refine wpOp_step rfl (fun K' hK' => ?_)
   rw [if_pos (by rfl)]
   simp only [rA5]
   go_simp
   exact hK' _ _ (sInv_next (i := 1) (v := .agg #[.int .i64 (x : Int), .int .i64 (m : Int)]) (by omega) hn8 hn9 hTo hgb (fun _ _ h => h) rfl (by rw [getD_set_other (by omega), getD_set_other (by omega)]; exact hpm) (by rw [getD_set_other (by omega), getD_set_other (by omega)]; exact h67) rfl)
  ·have e0 := hTo 0 (by omega) (dep_of_ready hcl hi (by kernel_rfl))
   have e1 := hTo 1 (by omega) (dep_of_ready hcl hi (by kernel_rfl))
   simp only [sF] at e0 e1
   obtain ⟨M', hM1, hM2, hM3, hM4, _, hM6⟩ := hpm
   have HCa := hid (HI1.out M' W HSW.out HWW.out hM1 (fun a b h => hM3 a b (H0.out a b h)) hM2)
   unfold gk RootR at HCa
   refine wpOp_step rfl (fun K' hK' => ?_)
   rw [if_pos (by rfl)]
   simp only [rA5, e0, e1]
   go_simp
   refine HCa.out.mono ?_
   rintro e w' ⟨rfl, ⟨M2, g1, g2, g3, g4, g5⟩, hg⟩
   refine hK' _ _ (sInv_next (i := 2) (v := d4 (D x m)) (by omega) hn8 hn9 hTo (gb_trans hgb hg) (sF_step (B := B) (by omega) hg) rfl ⟨M2, g1, g2, fun a b h => g3 a b (hM3 a b h), clM_trans hM4 g3 g4, fun _ => g5, fun h => g3 _ _ (hM6 (by rwa [getD_set_other (by omega)] at h))⟩ (by rw [getD_set_other (by omega), getD_set_other (by omega)]; exact h67) (by rw [an4]; simp only [rA5, upd', e0, e1, d4]; rfl))
  ·refine wpOp_step rfl (fun K' hK' => ?_)
   rw [if_pos (by rfl)]
   simp only [rA5]
   go_simp
   exact hK' _ _ (sInv_next (i := 3) (v := .pointer (some ⟨g, 0, none⟩)) (by omega) hn8 hn9 hTo hgb (fun _ _ h => h) rfl (by rw [getD_set_other (by omega), getD_set_other (by omega)]; exact hpm) (by rw [getD_set_other (by omega), getD_set_other (by omega)]; exact h67) rfl)
  ·refine wpOp_step rfl (fun K' hK' => ?_)
   rw [if_pos (by rfl)]
   simp only [rA5]
   go_simp
   exact hK' _ _ (sInv_next (i := 4) (v := .agg #[.int .i64 (m : Int), .int .i64 (y : Int)]) (by omega) hn8 hn9 hTo hgb (fun _ _ h => h) rfl (by rw [getD_set_other (by omega), getD_set_other (by omega)]; exact hpm) (by rw [getD_set_other (by omega), getD_set_other (by omega)]; exact h67) rfl)
  ·have e0 := hTo 3 (by omega) (dep_of_ready hcl hi (by kernel_rfl))
   have e1 := hTo 4 (by omega) (dep_of_ready hcl hi (by kernel_rfl))
   simp only [sF] at e0 e1
   obtain ⟨M', hM1, hM2, hM3, hM4, hM6, _⟩ := hpm
   have HCa := hid (HI2.out M' W HSW.out HWW.out hM1 (fun a b h => hM3 a b (H0.out a b h)) hM2)
   unfold gk RootR at HCa
   refine wpOp_step rfl (fun K' hK' => ?_)
   rw [if_pos (by rfl)]
   simp only [rA5, e0, e1]
   go_simp
   refine HCa.out.mono ?_
   rintro e w' ⟨rfl, ⟨M2, g1, g2, g3, g4, g5⟩, hg⟩
   refine hK' _ _ (sInv_next (i := 5) (v := d4 (D m y)) (by omega) hn8 hn9 hTo (gb_trans hgb hg) (sF_step (B := B) (by omega) hg) rfl ⟨M2, g1, g2, fun a b h => g3 a b (hM3 a b h), clM_trans hM4 g3 g4, fun h => g3 _ _ (hM6 (by rwa [getD_set_other (by omega)] at h)), fun _ => g5⟩ (by rw [getD_set_other (by omega), getD_set_other (by omega)]; exact h67) (by rw [an4]; simp only [rA5, upd', e0, e1, d4]; rfl))
  ·refine wpOp_step rfl (fun K' hK' => ?_)
   rw [if_pos (by rfl)]
   simp only [rA5]
   go_simp
   refine hK' _ _ (sInv_next (i := 6) (v := .pointer (some ⟨W.heap.size, 0, none⟩)) (by omega) hn8 hn9 hTo (gb_trans hgb (World.grownBy_alloc _ _ _)) (sF_step (B := B) (by omega) (World.grownBy_alloc _ _ _)) ⟨W.heap.size, rfl, hWs, ArrI.new W 4 213 (fun _ => 0)⟩ (by rw [getD_set_other (by omega), getD_set_other (by omega)]; exact hpm.block (Below.heap_alloc _ _ _ (by omega))) ?_ rfl)
   intro _ h7
   rw [getD_set_other (by omega)] at h7
   obtain ⟨A', e7, hA3, hA4⟩ := hTo 7 (by omega) h7
   have := hA4.lt
   show Value.pointer (some ⟨W.heap.size, 0, none⟩) ≠ σ 7
   rw [e7]
   intro e
   injection e with e
   injection e with e
   injection e with e
   omega
  ·refine wpOp_step rfl (fun K' hK' => ?_)
   rw [if_pos (by rfl)]
   simp only [rA5]
   go_simp
   refine hK' _ _ (sInv_next (i := 7) (v := .pointer (some ⟨W.heap.size, 0, none⟩)) (by omega) hn8 hn9 hTo (gb_trans hgb (World.grownBy_alloc _ _ _)) (sF_step (B := B) (by omega) (World.grownBy_alloc _ _ _)) ⟨W.heap.size, rfl, hWs, ArrI.new W 4 213 (fun _ => 0)⟩ (by rw [getD_set_other (by omega), getD_set_other (by omega)]; exact hpm.block (Below.heap_alloc _ _ _ (by omega))) ?_ rfl)
   intro h6 _
   rw [getD_set_other (by omega)] at h6
   obtain ⟨A', e7, hA3, hA4⟩ := hTo 6 (by omega) h6
   have := hA4.lt
   show σ 6 ≠ Value.pointer (some ⟨W.heap.size, 0, none⟩)
   rw [e7]
   intro e
   injection e with e
   injection e with e
   injection e with e
   omega
 case done =>
  intro L a W hall hI
  obtain ⟨σ, rfl, hgb, hpm, hT, hF1, hF2⟩ := hI
  obtain ⟨A, A', e6, e7, e5, hA1, hA3, hne, hA2, hA4⟩ := hF2 (hall 9 (by decide))
  rw [hall 2 (by decide), hall 5 (by decide)] at hpm
  exact hK _ _ (HFin.out A A' W σ e6 e7 hA2 hA4 hpm hgb)
theorem wroot_new (q n d b s g B x y c m : Nat) (D : Nat -> Nat -> List Int) (M0 M : Nat -> Nat -> Option (List Int)) (w : World) (ok : SpgOk q n d) (hD : ∀ a b, Dgst q (D a b)) (hs : SpgAt w s b q n d) (hw : WlkAt w g B s) (hM : MapIs w B M) (hx : x <= 1000000) (hy : y <= 1000000) (hc : y = x + c) (hm : m = x + lft c) (h2 : 2 <= c) (hd : M x y = none) (h0 : Sub M0 M) (hsn : Snd M D)
  (hDe : D x y = digl q n (1 :: (D x m ++ D m y))) (ih1 : RootIH q n d b s g B D M0 x m) (ih2 : RootIH q n d b s g B D M0 m y) :
  Calls Tryz.prog 163 #[.pointer (some ⟨g, 0, none⟩), gk x y] w (RootR D M B x y w) := by
 have HPT : Hid (∀ W, Calls Tryz.prog 205 #[.agg #[.int .i64 (x : Int), .int .i64 (y : Int)]] W fun e w' => e = .returned (.tuple #[.agg #[.int .i64 (x : Int), .int .i64 (m : Int)], .agg #[.int .i64 (m : Int), .int .i64 (y : Int)]]) /\ Below W.heap.size W w') := fun W => by rw [hm]; exact parts_any x y c hc hy W
 unfold gk
 have HR := hid (rootW_new (x := x) (y := y) hw hM)
 have hgl := hw.lt
 have hBl := hM.lt
 have HROOT : Hid (∀ (w3s : Nat) (W3 : World), Below w.heap.size w W3 -> W3.rowIs w.heap.size 201 2 (duo (.int .i64 (x : Int)) (.int .i64 (y : Int))) -> ArrI W3 (w.heap.size + 1) 213 4 (fun _ => 0) -> W3.rowIs w3s 201 2 (duo (.int .i64 (x : Int)) (.int .i64 (m : Int))) -> W3.rowIs (w3s + 1) 201 2 (duo (.int .i64 (m : Int)) (.int .i64 (y : Int))) -> w.heap.size <= w3s -> ∀ K : Act -> World -> Prop, (∀ a w', (sq (sq (sq (sq rootCode)))).wp Tryz.prog (bodyPost Tryz.prog Tryz.f163 (RootR D M B x y w)) a w' -> K a w') ->
   (fs (sq (sq (sq rootCode)))).wp Tryz.prog (Exit.then K (bodyPost Tryz.prog Tryz.f163 (RootR D M B x y w))) (rA5 g w.heap.size w3s B x m y (fun _ => undef)) W3) := fun w3s W3 hb hk hr hL hRr hw3 K hK =>
  root5 q n d b s g B x y c m w3s D M0 M w W3 ok hD hm hc hx hy h2 hDe ih1 ih2 h0 hsn (hM.below hb hBl) (hs.keep hb) (hw.block (hb.block _ hgl)) hk hr hL hRr (gb_below hb) hBl hw3 K hK
 clear hw hM hc hm hs hD hsn h0 hDe ih1 ih2
 go_enter Tryz.func163, Tryz.ntmps163
 go_wp2_with fail
 generalize (w.alloc (.cells #[.int .i64 (x : Int), .int .i64 (y : Int)] 201)).alloc (.cells #[.int .i64 0, .int .i64 0, .int .i64 0, .int .i64 0] 213) = W1 at *
 have hsz := HR.out.size
 have HK : Hid (∀ W, Below W1.heap.size W1 W -> W.cell? ⟨g, 1, none⟩ = some (.map (some B)) /\ W.cell? ⟨w.heap.size, 0, none⟩ = some (.int .i64 (x : Int)) /\ W.cell? ⟨w.heap.size, 1, none⟩ = some (.int .i64 (y : Int)) /\ W.heap[B]? = W1.heap[B]?) := fun W h =>
  ⟨(h.cell (p := ⟨g, 1, none⟩) (by show g < _; omega)).trans HR.out.c1, (h.cell (p := ⟨w.heap.size, 0, none⟩) (by show w.heap.size < _; omega)).trans (HR.out.key.cell (i := 0) (by omega)), (h.cell (p := ⟨w.heap.size, 1, none⟩) (by show w.heap.size < _; omega)).trans (HR.out.key.cell (i := 1) (by omega)), h.block B (by omega)⟩
 have hLk : ∀ W, W.heap[B]? = W1.heap[B]? -> (Instr.lookup 247 (.map (some B)) (.agg #[.int .i64 (x : Int), .int .i64 (y : Int)]) true).run Tryz.prog W = .ok (.tuple #[.agg #[.int .i64 0, .int .i64 0, .int .i64 0, .int .i64 0], .bool false]) W := fun W h => by
  have := (HR.out.map.block h).lookup (a := x) (b := y) (by omega) (by omega) true
  rw [hd, show gotv M x y = (fun _ => 0) from by unfold gotv; rw [hd], an4] at this
  exact this
 go_region_held3 (fun w' => w'.cell? ⟨g, 1, none⟩ = some (.map (some B)) /\ w'.cell? ⟨w.heap.size, 0, none⟩ = some (.int .i64 (x : Int)) /\ w'.cell? ⟨w.heap.size, 1, none⟩ = some (.int .i64 (y : Int)) /\ w'.heap[B]? = W1.heap[B]?)
  (first | exact HK.out _ (Below.refl _ _).drew | exact HK.out _ ((Below.refl _ _).drew.alloc (Nat.le_refl _) _)) (fail)
 all_goals (
  have HKe := hid (HR.out.key.alloc (.cells #[.int .i64 0, .int .i64 0, .int .i64 0, .int .i64 0] 213))
  have HAr := hid (HR.out.res.alloc (.cells #[.int .i64 0, .int .i64 0, .int .i64 0, .int .i64 0] 213)).drew
  have HBe : Hid (Below w.heap.size w (W1.alloc (.cells #[.int .i64 0, .int .i64 0, .int .i64 0, .int .i64 0] 213)).drew) := (HR.out.below.alloc (by omega) _).drew
  have HS2 : Hid ((W1.alloc (.cells #[.int .i64 0, .int .i64 0, .int .i64 0, .int .i64 0] 213)).drew.heap.size = w.heap.size + 3) := by unfold Hid; show (W1.alloc _).heap.size = _; simp; omega
  have hk0 : (W1.alloc (.cells #[.int .i64 0, .int .i64 0, .int .i64 0, .int .i64 0] 213)).drew.cell? ⟨w.heap.size, 0, none⟩ = some (.int .i64 (x : Int)) := HKe.out.cell (i := 0) (by omega)
  have hk1 : (W1.alloc (.cells #[.int .i64 0, .int .i64 0, .int .i64 0, .int .i64 0] 213)).drew.cell? ⟨w.heap.size, 1, none⟩ = some (.int .i64 (y : Int)) := HKe.out.cell (i := 1) (by omega)
  have HKe2 : Hid ((W1.alloc (.cells #[.int .i64 0, .int .i64 0, .int .i64 0, .int .i64 0] 213)).drew.rowIs w.heap.size 201 2 (duo (.int .i64 (x : Int)) (.int .i64 (y : Int)))) := HKe.out
  clear HK hLk HR hsz HKe
  generalize (W1.alloc (.cells #[.int .i64 0, .int .i64 0, .int .i64 0, .int .i64 0] 213)).drew = W2 at *
  go_wp2_with fail
  refine (HPT.out W2).mono ?_
  rintro e w3 ⟨rfl, hb3⟩
  have HB3 := hid (HBe.out.trans (hb3.mono (by rw [HS2.out]; omega)))
  have HAr3 := hid (HAr.out.block (hb3.block _ HAr.out.lt))
  have HK3 : Hid (w3.rowIs w.heap.size 201 2 (duo (.int .i64 (x : Int)) (.int .i64 (y : Int)))) := HKe2.out.of_block (hb3.block _ HKe2.out.lt)
  have hs3 : w.heap.size + 3 <= w3.heap.size := by have := hb3.size; rw [HS2.out] at this; exact this
  clear hb3 hk0 hk1 HAr HKe2 HBe HS2
  go_wp2_with fail
  have HLc := hid ((duo_new w3 201 (.int .i64 (x : Int)) (.int .i64 (m : Int))).alloc (.cells #[.int .i64 (m : Int), .int .i64 (y : Int)] 201))
  have HRc : Hid (((w3.alloc (.cells #[.int .i64 (x : Int), .int .i64 (m : Int)] 201)).alloc (.cells #[.int .i64 (m : Int), .int .i64 (y : Int)] 201)).rowIs (w3.heap.size + 1) 201 2 (duo (.int .i64 (m : Int)) (.int .i64 (y : Int)))) := by
   have := duo_new (w3.alloc (.cells #[.int .i64 (x : Int), .int .i64 (m : Int)] 201)) 201 (.int .i64 (m : Int)) (.int .i64 (y : Int))
   rwa [show (w3.alloc (.cells #[.int .i64 (x : Int), .int .i64 (m : Int)] 201)).heap.size = w3.heap.size + 1 from by simp] at this
  have HB33 : Hid (Below w3.heap.size w3 ((w3.alloc (.cells #[.int .i64 (x : Int), .int .i64 (m : Int)] 201)).alloc (.cells #[.int .i64 (m : Int), .int .i64 (y : Int)] 201))) := ((Below.refl _ _).alloc (Nat.le_refl _) _).alloc (by simp) _
  have hs4 : ((w3.alloc (.cells #[.int .i64 (x : Int), .int .i64 (m : Int)] 201)).alloc (.cells #[.int .i64 (m : Int), .int .i64 (y : Int)] 201)).heap.size = w3.heap.size + 2 := by simp
  generalize (w3.alloc (.cells #[.int .i64 (x : Int), .int .i64 (m : Int)] 201)).alloc (.cells #[.int .i64 (m : Int), .int .i64 (y : Int)] 201) = W3 at *
  have HBW : Hid (Below w.heap.size w W3) := HB3.out.trans (HB33.out.mono (by omega))
  have HAr4 := hid (HAr3.out.below HB33.out (by omega))
  have HK4 : Hid (W3.rowIs w.heap.size 201 2 (duo (.int .i64 (x : Int)) (.int .i64 (y : Int)))) := HK3.out.of_block (HB33.out.block _ (by omega))
  exact HROOT.out w3.heap.size W3 HBW.out HK4.out HAr4.out HLc.out HRc.out (by omega) _ (by assumption))
theorem wroot_any (q n d b s g B : Nat) (D : Nat -> Nat -> List Int) (M0 : Nat -> Nat -> Option (List Int)) (ok : SpgOk q n d) (hD : ∀ a b, Dgst q (D a b)) {x y : Nat} (h : Rdy q n D M0 x y) (hxy : x <= y) (hy : y <= 1000000) : RootIH q n d b s g B D M0 x y := by
 induction h with
 | @found x y hf =>
  intro M w hs hw hM h0 hsn
  obtain ⟨dl, hdl⟩ := Option.ne_none_iff_exists'.1 (h0 x y hf)
  have := hsn x y dl hdl
  subst this
  refine (wroot_found s g B x y (D x y) M w hw hM (by omega) hy hdl).mono ?_
  rintro e w' ⟨rfl, hb⟩
  exact ⟨rfl, ⟨M, hM.below hb hM.lt, hsn, fun _ _ h => h, fun _ _ h => .inl h, by rw [hdl]; simp⟩, gb_below hb⟩
 | @node x y h2 hDe _ _ ih1 ih2 =>
  intro M w hs hw hM h0 hsn
  obtain ⟨_, l2, l3⟩ := lft_spec (y - x)
  have l3' := l3 h2
  cases hd : M x y with
  | some dl =>
   have := hsn x y dl hd
   subst this
   refine (wroot_found s g B x y (D x y) M w hw hM (by omega) hy hd).mono ?_
   rintro e w' ⟨rfl, hb⟩
   exact ⟨rfl, ⟨M, hM.below hb hM.lt, hsn, fun _ _ h => h, fun _ _ h => .inl h, by rw [hd]; simp⟩, gb_below hb⟩
  | none => exact wroot_new q n d b s g B x y (y - x) (x + lft (y - x)) D M0 M w ok hD hs hw hM (by omega) hy (by omega) rfl h2 hd h0 hsn hDe (ih1 (by omega) (by omega)) (ih2 (by omega) hy)
theorem opn_c0 {W : World} {O : Nat} {a b c : Value} {t : TypeId} (h : W.heap[O]? = some (.cells #[a, b, c] t (0, 0))) : W.cell? ⟨O, 0, none⟩ = some a := by simp [World.cell?, h]
theorem opn_c1 {W : World} {O : Nat} {a b c : Value} {t : TypeId} (h : W.heap[O]? = some (.cells #[a, b, c] t (0, 0))) : W.cell? ⟨O, 1, none⟩ = some b := by simp [World.cell?, h]
theorem opn_c2 {W : World} {O : Nat} {a b c : Value} {t : TypeId} (h : W.heap[O]? = some (.cells #[a, b, c] t (0, 0))) : W.cell? ⟨O, 2, none⟩ = some c := by simp [World.cell?, h]
def okb (N : Int) (root ps : List Int) (rows nodes : List (List Int)) : Prop := 1 <= N /\ N <= 65536 /\ root.length = 4 /\ shwn N.toNat ps rows nodes
theorem checked_no (s c4 cp cr cn : Nat) (a4 ap ar an' : Option Addr) (root : List Int) (N : Int) (ps : List Int) (rows nodes : List (List Int)) (w : World) (hN1 : -9223372036854775808 <= N) (hN2 : N <= 9223372036854775807) (hpl : ps.length <= 281474976710656) (hnl : nodes.length <= 281474976710656) (hp : Lst w.heap.size w ap cp ps) (hn : LstR w.heap.size w an' cn nodes) (hno : ¬ okb N root ps rows nodes) :
  Calls Tryz.prog 178 #[.pointer (some ⟨s, 0, none⟩), .slice a4 root.length c4, .int .i64 N, .agg #[.slice ap ps.length cp, .slice ar rows.length cr, .slice an' nodes.length cn]] w fun e w' => e = .returned (.tuple #[.pointer none, .bool false]) /\ Below w.heap.size w w' := by
 have HB0 : Hid (Below w.heap.size w (w.alloc (.cells #[.slice ap ps.length cp, .slice ar rows.length cr, .slice an' nodes.length cn] 31))) := (Below.refl _ _).alloc (Nat.le_refl _) _
 have HO := hid (tri_arr (tri_new w 31 (.slice ap ps.length cp) (.slice ar rows.length cr) (.slice an' nodes.length cn)))
 have HNO := hid hno
 have HL := hid hp
 have HNL := hid hn
 have HI := hid (fun W => issize_any N W)
 have HD := hid (fun W => isdigest_any a4 root.length c4 W)
 clear hno hp hn
 by_cases hsz : 1 <= N /\ N <= 65536
 ·have hb : (decide (1 <= N) && decide (N <= 65536)) = true := by simp; exact hsz
  rw [hb] at HI
  obtain ⟨M, rfl⟩ := Int.eq_ofNat_of_zero_le (show 0 <= N by omega)
  by_cases h4 : root.length = 4
  ·rw [decide_eq_true h4, h4] at HD
   rw [h4]
   have HS : Hid (∀ W, Below w.heap.size w W -> Calls Tryz.prog 217 #[.agg #[.int .i64 0, .int .i64 (M : Int)], .agg #[.slice ap ps.length cp, .slice ar rows.length cr, .slice an' nodes.length cn]] W fun e w' => e = .returned (.bool false) /\ Below W.heap.size W w') := fun W h => by
    refine (isshown_any M cp cr cn ap ar an' ps rows nodes W (by omega) (by omega) hpl hnl ((HL.out.below h).mono h.size) ((HNL.out.below h).mono h.size)).mono ?_
    rintro e w' ⟨⟨t, rfl, ht⟩, hb⟩
    refine ⟨?_, hb⟩
    cases t with
    | false => rfl
    | true => exact absurd ⟨hsz.1, hsz.2, h4, by rw [Int.toNat_natCast]; exact ht.1 rfl⟩ HNO.out
   clear h4 hb
   go_enter Tryz.func178, Tryz.ntmps178
   go_wp2_with fail
   generalize w.alloc (.cells #[.slice ap ps.length cp, .slice ar rows.length cr, .slice an' nodes.length cn] 31) = W0 at *
   refine (HI.out W0).mono ?_
   rintro e w1 ⟨rfl, rfl⟩
   go_wp2_with fail
   refine (HD.out w1).mono ?_
   rintro e w2 ⟨rfl, rfl⟩
   have k0 := opn_c0 HO.out
   have k1 := opn_c1 HO.out
   have k2 := opn_c2 HO.out
   go_wp2_with fail
   refine (HS.out w2 HB0.out).mono ?_
   rintro e w3 ⟨rfl, hb3⟩
   have HB3 : Hid (Below w.heap.size w w3) := HB0.out.trans (hb3.mono HB0.out.size)
   clear hb3
   go_wp2_with fail
   go_ret2
   exact ⟨rfl, HB3.out⟩
  ·rw [decide_eq_false h4] at HD
   clear h4 hb
   go_enter Tryz.func178, Tryz.ntmps178
   go_wp2_with fail
   generalize w.alloc (.cells #[.slice ap ps.length cp, .slice ar rows.length cr, .slice an' nodes.length cn] 31) = W0 at *
   refine (HI.out W0).mono ?_
   rintro e w1 ⟨rfl, rfl⟩
   go_wp2_with fail
   refine (HD.out w1).mono ?_
   rintro e w2 ⟨rfl, rfl⟩
   go_wp2_with fail
   go_ret2
   exact ⟨rfl, HB0.out⟩
 ·have hb : (decide (1 <= N) && decide (N <= 65536)) = false := by rw [Bool.eq_false_iff]; intro h; simp at h; exact hsz h
  rw [hb] at HI
  clear hsz hb
  go_enter Tryz.func178, Tryz.ntmps178
  go_wp2_with fail
  generalize w.alloc (.cells #[.slice ap ps.length cp, .slice ar rows.length cr, .slice an' nodes.length cn] 31) = W0 at *
  refine (HI.out W0).mono ?_
  rintro e w1 ⟨rfl, rfl⟩
  go_wp2_with fail
  go_ret2
  exact ⟨rfl, HB0.out⟩
theorem eqI_run (n : Nat) (a b : Int) (w : World) : (Op.equalIn (n + 1) 3 (.int .i64 a) (.int .i64 b)).run Tryz.prog w = .ok (a == b) w := by
 simp [Op.equalIn, run_underlying Tryz.underlying3, Result.andThen]
theorem part_run (cs : Array Value) (i : Nat) (v : Value) (h : cs[i]? = some v) (w : World) : (part 3 cs i).run Tryz.prog w = .ok v w := by
 simp [part, Tryz.isAgg3, h, Result.andThen]
theorem eq4_run (a0 a1 a2 a3 b0 b1 b2 b3 : Int) (w : World) : (Op.equalIn 10000 213 (.agg #[.int .i64 a0, .int .i64 a1, .int .i64 a2, .int .i64 a3]) (.agg #[.int .i64 b0, .int .i64 b1, .int .i64 b2, .int .i64 b3])).run Tryz.prog w = .ok (a0 == b0 && (a1 == b1 && (a2 == b2 && a3 == b3))) w := by
 have e : ∀ (x y : Int), (Op.equalIn 9999 3 (.int .i64 x) (.int .i64 y)).run Tryz.prog w = .ok (x == y) w := fun x y => eqI_run 9998 x y w
 rw [show (10000 : Nat) = 9999 + 1 from rfl]
 unfold Op.equalIn
 simp only [Sem.run_bind, run_underlying Tryz.underlying213, Result.andThen_ok, Tryz.sizeOf3]
 have p0 : ∀ (x0 x1 x2 x3 : Value), (part 3 #[x0, x1, x2, x3] (0 * 1)).run Tryz.prog w = .ok x0 w := fun x0 x1 x2 x3 => part_run _ _ _ rfl w
 have p1 : ∀ (x0 x1 x2 x3 : Value), (part 3 #[x0, x1, x2, x3] (1 * 1)).run Tryz.prog w = .ok x1 w := fun x0 x1 x2 x3 => part_run _ _ _ rfl w
 have p2 : ∀ (x0 x1 x2 x3 : Value), (part 3 #[x0, x1, x2, x3] (2 * 1)).run Tryz.prog w = .ok x2 w := fun x0 x1 x2 x3 => part_run _ _ _ rfl w
 have p3 : ∀ (x0 x1 x2 x3 : Value), (part 3 #[x0, x1, x2, x3] (3 * 1)).run Tryz.prog w = .ok x3 w := fun x0 x1 x2 x3 => part_run _ _ _ rfl w
 rw [Std.Legacy.Range.forIn_eq_forIn_range']
 show ((Sem.run Tryz.prog (forIn [0, 1, 2, 3] _ _) w).andThen _) = _
 simp only [List.forIn_cons, List.forIn_nil, Sem.run_bind, p0, e, Result.andThen_ok]
 cases h0 : (a0 == b0) <;> cases h1 : (a1 == b1) <;> cases h2 : (a2 == b2) <;> cases h3 : (a3 == b3) <;> simp [h1, h2, h3, p1, p2, p3, e, Result.andThen]
theorem eq4_dec {x y : List Int} (hx : x.length = 4) (hy : y.length = 4) : (zat x 0 == zat y 0 && (zat x 1 == zat y 1 && (zat x 2 == zat y 2 && zat x 3 == zat y 3))) = decide (x = y) := by
 obtain ⟨a0, a1, a2, a3, rfl⟩ : ∃ a0 a1 a2 a3, x = [a0, a1, a2, a3] := by
  match x, hx with
  | [a0, a1, a2, a3], _ => exact ⟨a0, a1, a2, a3, rfl⟩
 obtain ⟨b0, b1, b2, b3, rfl⟩ : ∃ b0 b1 b2 b3, y = [b0, b1, b2, b3] := by
  match y, hy with
  | [b0, b1, b2, b3], _ => exact ⟨b0, b1, b2, b3, rfl⟩
 rw [Bool.eq_iff_iff]
 simp [zat]
theorem eqd_run {x y : List Int} (hx : x.length = 4) (hy : y.length = 4) (w : World) : (Op.equalIn 10000 213 (.agg #[.int .i64 (zat x 0), .int .i64 (zat x 1), .int .i64 (zat x 2), .int .i64 (zat x 3)]) (.agg #[.int .i64 (zat y 0), .int .i64 (zat y 1), .int .i64 (zat y 2), .int .i64 (zat y 3)])).run Tryz.prog w = .ok (decide (x = y)) w := by
 rw [eq4_run, eq4_dec hx hy]
theorem gcsT_at : ∀ (l : List (Nat × Nat)) (k : Nat), k < l.length -> (gcsT l)[k * 2]? = some (.int .i64 ((l.getD k (0, 0)).1 : Int)) /\ (gcsT l)[k * 2 + 1]? = some (.int .i64 ((l.getD k (0, 0)).2 : Int))
 | [], _, h => by simp at h
 | g :: l, 0, _ => by simp [gcsT]
 | g :: l, k + 1, h => by
  have := gcsT_at l k (by simpa using h)
  simp only [gcsT, List.flatMap_cons] at this ⊢
  rw [show (k + 1) * 2 = (k * 2) + 2 by omega, show (k * 2) + 2 + 1 = (k * 2 + 1) + 2 by omega]
  simpa using this
theorem ownG_cells {base : Nat} {w : World} {v : Value} {l : List (Nat × Nat)} (h : OwnG base w v l) {k : Nat} (hk : k < l.length) : ∃ gv, v = .slice (some ⟨gv, 0, none⟩) l.length (match v with | .slice _ _ c => c | _ => 0) /\ base <= gv /\ gv < w.heap.size /\ w.cell? ⟨gv, k * 2, none⟩ = some (.int .i64 ((l.getD k (0, 0)).1 : Int)) /\ w.cell? ⟨gv, k * 2 + 1, none⟩ = some (.int .i64 ((l.getD k (0, 0)).2 : Int)) := by
 rcases h.2 with ⟨_, h0⟩ | ⟨g, cap, cur, rfl, hb, hg, hn, hm, hs, ht⟩
 ·omega
 ·obtain ⟨e1, e2⟩ := gcsT_at l k hk
  rw [<- ht, List.getElem?_take, if_pos (by omega)] at e1 e2
  refine ⟨g, rfl, hb, (Array.getElem?_eq_some_iff.1 hg).1, ?_, ?_⟩
  ·simp only [World.cell?, hg]
   simpa using e1
  ·simp only [World.cell?, hg]
   simpa using e2
structure CkW (w : World) (g B s : Nat) (opn : Array Value) (W : World) (M : Nat -> Nat -> Option (List Int)) : Prop where
 below : Below w.heap.size w W
 opn : W.heap[w.heap.size]? = some (.cells opn 31 (0, 0))
 wlk : WlkAt W g B s
 map : MapIs W B M
theorem CkW.gb {w : World} {g B s : Nat} {opn : Array Value} {W W' : World} {M M' : Nat -> Nat -> Option (List Int)} (h : CkW w g B s opn W M) (hB : w.heap.size < B) (e : W.grownBy W' (some B)) (hM : MapIs W' B M') : CkW w g B s opn W' M' := by
 have hBg : g ≠ B := fun e' => by
  obtain ⟨es, ck, h1, _⟩ := h.map
  have h2 := h.wlk
  unfold WlkAt at h2
  rw [e', h1] at h2
  cases h2
 refine ⟨⟨e.os.trans h.below.os, e.tape.trans h.below.tape, e.output.trans h.below.output, Nat.le_trans h.below.size e.size, fun k hk => (gb_blk e (by have := h.below.size; omega) (by omega)).trans (h.below.block k hk)⟩, (gb_blk e (Array.getElem?_eq_some_iff.1 h.opn).1 (by omega)).trans h.opn, h.wlk.block (gb_blk e h.wlk.lt hBg), hM⟩
theorem CkW.bl {w : World} {g B s : Nat} {opn : Array Value} {W W' : World} {M : Nat -> Nat -> Option (List Int)} (h : CkW w g B s opn W M) (e : Below W.heap.size W W') : CkW w g B s opn W' M :=
 ⟨h.below.trans (e.mono h.below.size), (e.block _ (Array.getElem?_eq_some_iff.1 h.opn).1).trans h.opn, h.wlk.block (e.block _ h.wlk.lt), h.map.below e h.map.lt⟩
def WlkDone (q n N : Nat) (ps : List Int) (rows nodes : List (List Int)) (w : World) (g B s : Nat) (w' : World) : Prop :=
 w.heap.size < B /\ WlkAt w' g B s /\ Below w.heap.size w w' /\ ∃ M', MapIs w' B M' /\ Snd M' (DV q n (M0 q n N ps rows nodes)) /\ ClM (M0 q n N ps rows nodes) M' /\ M' 0 N ≠ none
theorem CkW.done {q n N : Nat} {ps : List Int} {rows nodes : List (List Int)} {w : World} {g B s : Nat} {opn : Array Value} {W : World} (hB : w.heap.size < B) (h : ∃ M', CkW w g B s opn W M' /\ Snd M' (DV q n (M0 q n N ps rows nodes)) /\ ClM (M0 q n N ps rows nodes) M' /\ M' 0 N ≠ none) : WlkDone q n N ps rows nodes w g B s W := by
 obtain ⟨M', h1, h2, h3, h4⟩ := h
 exact ⟨hB, h1.wlk, h1.below, M', h1.map, h2, h3, h4⟩
theorem checked_yes (q n d b s c4 cp cr cn : Nat) (a4 ap ar an' : Option Addr) (root : List Int) (N : Nat) (ps : List Int) (rows nodes : List (List Int)) (w : World) (hs1 : 1 <= N) (hs2 : N <= 65536) (h4 : root.length = 4) (hsh : shwn N ps rows nodes) (ok : SpgOk q n d) (hs : SpgAt w s b q n d) (hpl : ps.length <= 281474976710656) (hnl : nodes.length <= 281474976710656) (hf4 : Fits root) (hfp : Fits ps) (hfr : FitsR rows) (hfn : FitsR nodes) (hl4 : Lst w.heap.size w a4 c4 root) (hp : Lst w.heap.size w ap cp ps) (hr : LstR w.heap.size w ar cr rows) (hn : LstR w.heap.size w an' cn nodes) :
  Calls Tryz.prog 178 #[.pointer (some ⟨s, 0, none⟩), .slice a4 root.length c4, .int .i64 (N : Int), .agg #[.slice ap ps.length cp, .slice ar rows.length cr, .slice an' nodes.length cn]] w fun e w' => ∃ g B, e = .returned (.tuple #[.pointer (some ⟨g, 0, none⟩), .bool (decide (DV q n (M0 q n N ps rows nodes) 0 N = elr q root))]) /\ WlkDone q n N ps rows nodes w g B s w' := by
 have HB0 : Hid (Below w.heap.size w (w.alloc (.cells #[.slice ap ps.length cp, .slice ar rows.length cr, .slice an' nodes.length cn] 31))) := (Below.refl _ _).alloc (Nat.le_refl _) _
 have HO := hid (tri_arr (tri_new w 31 (.slice ap ps.length cp) (.slice ar rows.length cr) (.slice an' nodes.length cn)))
 have HSH := hid hsh
 have HL := hid hp
 have HNL := hid hn
 have HI := hid (fun W => issize_any (N : Int) W)
 rw [show (decide (1 <= (N : Int)) && decide ((N : Int) <= 65536)) = true by simp; omega] at HI
 have HD := hid (fun W => isdigest_any a4 root.length c4 W)
 rw [decide_eq_true h4, h4] at HD
 rw [h4]
 have HS : Hid (∀ W, Below w.heap.size w W -> Calls Tryz.prog 217 #[.agg #[.int .i64 0, .int .i64 (N : Int)], .agg #[.slice ap ps.length cp, .slice ar rows.length cr, .slice an' nodes.length cn]] W fun e w' => e = .returned (.bool true) /\ Below W.heap.size W w') := fun W h => by
  refine (isshown_any N cp cr cn ap ar an' ps rows nodes W hs1 hs2 hpl hnl ((HL.out.below h).mono h.size) ((HNL.out.below h).mono h.size)).mono ?_
  rintro e w' ⟨⟨t, rfl, ht⟩, hb⟩
  exact ⟨by rw [ht.2 HSH.out], hb⟩
 clear hsh hp hn
 go_enter Tryz.func178, Tryz.ntmps178
 go_wp2_with fail
 generalize w.alloc (.cells #[.slice ap ps.length cp, .slice ar rows.length cr, .slice an' nodes.length cn] 31) = W0 at *
 refine (HI.out W0).mono ?_
 rintro e w1 ⟨rfl, rfl⟩
 go_wp2_with fail
 refine (HD.out w1).mono ?_
 rintro e w2 ⟨rfl, rfl⟩
 have k0 := opn_c0 HO.out
 have k1 := opn_c1 HO.out
 have k2 := opn_c2 HO.out
 go_wp2_with fail
 refine (HS.out w2 HB0.out).mono ?_
 rintro e w3 ⟨rfl, hb3⟩
 have HB3 : Hid (Below w.heap.size w w3) := HB0.out.trans (hb3.mono HB0.out.size)
 have HO3 : Hid (w3.heap[w.heap.size]? = some (.cells #[.slice ap ps.length cp, .slice ar rows.length cr, .slice an' nodes.length cn] 31 (0, 0))) := (hb3.block _ (Array.getElem?_eq_some_iff.1 HO.out).1).trans HO.out
 clear hb3
 have HNW := hid (newwalk_any s w3)
 go_wp2_with fail
 refine HNW.out.mono ?_
 rintro e w4 ⟨rfl, hwl, hmp, hsz, hb4⟩
 have HCK : Hid (CkW w (w3.heap.size + 1) w3.heap.size s #[.slice ap ps.length cp, .slice ar rows.length cr, .slice an' nodes.length cn] w4 (fun _ _ => none)) := ⟨HB3.out.trans (hb4.mono HB3.out.size), (hb4.block _ (Array.getElem?_eq_some_iff.1 HO3.out).1).trans HO3.out, hwl, hmp⟩
 have hB1 : w.heap.size < w3.heap.size := (Array.getElem?_eq_some_iff.1 HO3.out).1
 have hB2 : w4.heap.size = w3.heap.size + 2 := hsz
 have k0' := opn_c0 HCK.out.opn
 clear hwl hmp hb4 hsz HB3 HO3 HNW HS HD HI HO HB0 k0 k1 k2
 have HHI : Hid (∀ W, Below w4.heap.size w4 W -> Calls Tryz.prog 161 #[.agg #[.int .i64 0, .int .i64 (N : Int)], .slice ap ps.length cp] W fun e w' => ∃ v, e = .returned v /\ OwnG w4.heap.size w' v (hd2 ps N 0 N) /\ Below w4.heap.size w4 w') := fun W h => by
  have hsg := seg_all (N := N) (ps := ps) (fun x hx => by
   obtain ⟨j, hj, rfl⟩ := mem_zat hx
   have := HSH.out.2.1 j hj
   omega)
  have hbw := HCK.out.below.trans (h.mono HCK.out.below.size)
  have := hidden_any ps (asc_of HSH.out.2.1) N 0 N hs1 (Nat.le_refl _) (by omega) cp ap W (by rw [hsg]; exact (HL.out.below hbw).mono hbw.size)
  rw [hsg, Nat.zero_add] at this
  refine this.mono ?_
  rintro e w5 ⟨v, rfl, hov, hb5⟩
  exact ⟨v, rfl, hov.mono h.size, h.trans (hb5.mono h.size)⟩
 go_wp2_with fail
 refine (HHI.out w4 (Below.refl _ _)).mono ?_
 rintro e w5 ⟨v, rfl, hov, hb5⟩
 have HOV := hid hov
 have HCK5 := hid (HCK.out.bl hb5)
 have hs5 := hb5.size
 obtain ⟨hl, hhl⟩ := exE ((hd2 ps N 0 N).length)
 have HHL := hid hhl
 obtain ⟨av, c5, rfl⟩ : ∃ av c5, v = .slice av hl c5 := by
  rcases hov.2 with ⟨rfl, h0⟩ | ⟨g5, c5, _, rfl, _⟩
  ·exact ⟨none, 0, by rw [hhl, h0]⟩
  ·exact ⟨_, _, by rw [hhl]⟩
 have hll : hl <= 65536 := by have := hd2_len ps N 0 N hs1 (Nat.le_refl _); omega
 have HCEL : Hid (∀ (W : World), w5.grownBy W (some w3.heap.size) -> ∀ k, k < hl -> ∃ gv, av = some ⟨gv, 0, none⟩ /\ W.cell? ⟨gv, k * 2, none⟩ = some (.int .i64 (((hd2 ps N 0 N).getD k (0, 0)).1 : Int)) /\ W.cell? ⟨gv, k * 2 + 1, none⟩ = some (.int .i64 (((hd2 ps N 0 N).getD k (0, 0)).2 : Int))) := fun W hW k hk => by
  rw [hhl] at hk
  obtain ⟨gv, e1, e2, e3, e4, e5⟩ := ownG_cells HOV.out hk
  simp only [Value.slice.injEq] at e1
  exact ⟨gv, e1.1, (gb_cell hW (p := ⟨gv, k * 2, none⟩) e3 (by show gv ≠ _; omega)).trans e4, (gb_cell hW (p := ⟨gv, k * 2 + 1, none⟩) e3 (by show gv ≠ _; omega)).trans e5⟩
 clear hov hb5 hhl HCK HHI k0'
 have h3 : 3 <= q := by have := ok.h23; omega
 have hm := ok.hm
 have HSP := hid hs
 have HFN := hid hfn
 have HOKK := hid ok
 have HRL := hid hr
 have HFR := hid hfr
 have HL4 := hid hl4
 have HF4 := hid hf4
 have HFP := hid hfp
 clear hs hfn ok hr hfr hl4 hf4 hfp
 generalize w3.heap.size = B at *
 go_wp2_with fail
 go_loopw [38] (fun iv wr => ∃ k : Nat, k <= hl /\ iv = .int .i64 k /\ Hid (CkW w (B + 1) B s #[.slice ap ps.length cp, .slice ar rows.length cr, .slice an' nodes.length cn] wr (mput (L1 q (hd2 ps N 0 N) nodes k)) /\ w5.grownBy wr (some B))) (fun iv _ => hl - (intOf iv).toNat)
 case atStart => exact ⟨0, by omega, rfl, HCK5.out, gb_refl _ _⟩
 case round =>
  obtain ⟨k, hk, rfl, hC⟩ := hrel
  by_cases hlt : k < hl
  ·have hlt2 : (k : Int) < (hl : Int) := by omega
   have hks : IntKind.i64.wrap ((k : Int) + 1) = (k : Int) + 1 := by rw [IntKind.wrap_i64]; omega
   obtain ⟨gv, rfl, hcv1, hcv2⟩ := HCEL.out wr hC.out.2 k hlt
   have hkn : k < nodes.length := by rw [HSH.out.2.2.2, <- HHL.out]; exact hlt
   have hkn2 : (k : Int) < (nodes.length : Int) := by omega
   obtain ⟨bn, on, ak, ck, hae, hbn, hcn, hln⟩ := HNL.out.row k hkn
   subst hae
   have h4k := HSH.out.2.2.1 k hkn
   rw [h4k] at hcn
   have hhd := hd_at (ps := ps) hs1 (show k < (hd2 ps N 0 N).length by rw [<- HHL.out]; exact hlt)
   have HMS : Hid (mput (L1 q (hd2 ps N 0 N) nodes (k + 1)) = upd (mput (L1 q (hd2 ps N 0 N) nodes k)) ((hd2 ps N 0 N).getD k (0, 0)).1 ((hd2 ps N 0 N).getD k (0, 0)).2 (elr q (rat nodes k))) := by unfold Hid; rw [L1_succ, mput_snoc]
   obtain ⟨ga, hga⟩ := exE (((hd2 ps N 0 N).getD k (0, 0)).1)
   obtain ⟨gb, hgb⟩ := exE (((hd2 ps N 0 N).getD k (0, 0)).2)
   rw [<- hga, <- hgb] at HMS hhd
   rw [<- hga] at hcv1
   rw [<- hgb] at hcv2
   have HCW := hid (hC.out.1.bl ((Below.refl _ _).alloc (Nat.le_refl _) (.cells #[.int .i64 (ga : Int), .int .i64 (gb : Int)] 201)))
   have HG1 : Hid (w5.grownBy (wr.alloc (.cells #[.int .i64 (ga : Int), .int .i64 (gb : Int)] 201)) (some B)) := gb_trans hC.out.2 (World.grownBy_alloc _ _ _)
   have HLg := hid (duo_new wr 201 (.int .i64 (ga : Int)) (.int .i64 (gb : Int)))
   have hBr : B < wr.heap.size := hC.out.1.map.lt
   clear hC hga hgb 
   go_wp2_with fail
   generalize wr.alloc (.cells #[.int .i64 (ga : Int), .int .i64 (gb : Int)] 201) = W1 at *
   have HKe : Hid (∀ W, Below W1.heap.size W1 W -> W.cell? ⟨B + 1, 1, none⟩ = some (.map (some B)) /\ W.cell? ⟨wr.heap.size, 0, none⟩ = some (.int .i64 (ga : Int)) /\ W.cell? ⟨wr.heap.size, 1, none⟩ = some (.int .i64 (gb : Int)) /\ W.cell? ⟨w.heap.size, 2, none⟩ = some (.slice (some ⟨bn, on, none⟩) nodes.length cn) /\ W.cell? ⟨bn, on + k, none⟩ = some (.slice ak 4 ck)) := fun W h => by
    have hc := HCW.out.bl h
    exact ⟨hc.wlk.c1, (h.cell (p := ⟨wr.heap.size, 0, none⟩) HLg.out.lt).trans (HLg.out.cell (i := 0) (by omega)), (h.cell (p := ⟨wr.heap.size, 1, none⟩) HLg.out.lt).trans (HLg.out.cell (i := 1) (by omega)), opn_c2 hc.opn, (hc.below.cell (p := ⟨bn, on + k, none⟩) hbn).trans hcn⟩
   have HFd : Hid (∀ W, Below W1.heap.size W1 W -> Calls Tryz.prog 19 #[.pointer (some ⟨s, 0, none⟩)] W fun e w' => e = .returned (.pointer (some ⟨b, 0, none⟩)) /\ w' = W) := fun W h => sfield_any q n d b s W (HSP.out.keep (HCW.out.bl h).below)
   have HDg : Hid (∀ W, Below W1.heap.size W1 W -> Calls Tryz.prog 218 #[.pointer (some ⟨b, 0, none⟩), .slice ak 4 ck] W fun e w' => e = .returned (d4 (elr q (rat nodes k))) /\ Below W1.heap.size W1 w' /\ ∃ w2, (Instr.mapUpdate 247 (.map (some B)) (.agg #[.int .i64 (ga : Int), .int .i64 (gb : Int)]) (d4 (elr q (rat nodes k)))).run Tryz.prog w' = .ok () w2 /\ (w2.cell? ⟨B + 1, 1, none⟩ = some (.map (some B)) /\ w2.cell? ⟨wr.heap.size, 0, none⟩ = some (.int .i64 (ga : Int)) /\ w2.cell? ⟨wr.heap.size, 1, none⟩ = some (.int .i64 (gb : Int)) /\ w2.cell? ⟨w.heap.size, 2, none⟩ = some (.slice (some ⟨bn, on, none⟩) nodes.length cn) /\ w2.cell? ⟨bn, on + k, none⟩ = some (.slice ak 4 ck)) /\ Hid (CkW w (B + 1) B s #[.slice ap ps.length cp, .slice ar rows.length cr, .slice (some ⟨bn, on, none⟩) nodes.length cn] w2 (mput (L1 q (hd2 ps N 0 N) nodes (k + 1))) /\ w5.grownBy w2 (some B))) := fun W h => by
    have hc := HCW.out.bl h
    refine (digestof_any q b ck ak (rat nodes k) W h3 hm (HSP.out.keep hc.below).p h4k (HFN.out k hkn).1 ((hln.row.below hc.below).mono hc.below.size)).mono ?_
    rintro e w' ⟨rfl, hb'⟩
    have h' := h.trans (hb'.mono h.size)
    have hc' := HCW.out.bl h'
    have hk' := HKe.out w' h'
    obtain ⟨w2, r1, r2, r3⟩ := hc'.map.update (a := ga) (b := gb) (by omega) (by omega) (elr q (rat nodes k))
    have hca := hc'.gb hB1 r3 r2
    have ed : an 4 (fun j => zat (rat nodes k) j % (q : Int)) = an 4 (zat (elr q (rat nodes k))) := an_congr (fun j hj => by unfold elr; rw [ls_at _ _ _ (by omega)])
    have hne : ∀ (p : Addr), p.block < w'.heap.size -> p.block ≠ B -> w2.cell? p = w'.cell? p := fun p h1 h2 => gb_cell r3 h1 h2
    have hs' := h'.size
    have hlg := HLg.out.lt
    refine ⟨by rw [ed, an4]; rfl, h', w2, ?_, ⟨hca.wlk.c1, (hne ⟨wr.heap.size, 0, none⟩ (by show wr.heap.size < _; omega) (by show wr.heap.size ≠ _; omega)).trans hk'.2.1, (hne ⟨wr.heap.size, 1, none⟩ (by show wr.heap.size < _; omega) (by show wr.heap.size ≠ _; omega)).trans hk'.2.2.1, opn_c2 hca.opn, (hca.below.cell (p := ⟨bn, on + k, none⟩) hbn).trans hcn⟩, ?_, gb_trans (gb_trans HG1.out (gb_below h')) r3⟩
    ·rw [an4] at r1
     exact r1
    ·rw [HMS.out]
     exact hca
   have hd1 : Below W1.heap.size W1 W1.drew := (Below.refl _ _).drew
   go_region_held3 (fun W => W.cell? ⟨B + 1, 1, none⟩ = some (.map (some B)) /\ W.cell? ⟨wr.heap.size, 0, none⟩ = some (.int .i64 (ga : Int)) /\ W.cell? ⟨wr.heap.size, 1, none⟩ = some (.int .i64 (gb : Int)) /\ W.cell? ⟨w.heap.size, 2, none⟩ = some (.slice (some ⟨bn, on, none⟩) nodes.length cn) /\ W.cell? ⟨bn, on + k, none⟩ = some (.slice ak 4 ck)) (first | assumption | exact HKe.out _ (by assumption))
    (first
     | (go_at_call 19; refine (HFd.out _ (by assumption)).mono ?_; rintro e w' ⟨rfl, rfl⟩)
     | (go_at_call 218; refine (HDg.out _ (by assumption)).mono ?_; unfold d4; rintro e w' ⟨rfl, hbd, w2, hrun, hS2, hE⟩))
   go_wp2_with fail
   go_roundw
   case rel => exact ⟨k + 1, by omega, by go_num, hE⟩
   case measure => simp [intOf]; omega
  ·obtain rfl : k = hl := by omega
   have HC1 := hC
   have k0' := opn_c0 hC.out.1.opn
   clear hC
   go_wp2_with fail
   go_loopw [60] (fun iv wt => ∃ j : Nat, j <= ps.length /\ iv = .int .i64 j /\ Hid (CkW w (B + 1) B s #[.slice ap ps.length cp, .slice ar rows.length cr, .slice an' nodes.length cn] wt (mput (L1 q (hd2 ps N 0 N) nodes k ++ L2 q n ps rows j)))) (fun iv _ => ps.length - (intOf iv).toNat)
   case atStart => exact ⟨0, by omega, rfl, by show CkW _ _ _ _ _ _ (mput (_ ++ [])); rw [List.append_nil]; exact HC1.out.1⟩
   case round =>
    obtain ⟨j, hj, rfl, hD⟩ := hrel
    by_cases hlt3 : j < ps.length
    ·have hlt4 : (j : Int) < (ps.length : Int) := by omega
     have hks : IntKind.i64.wrap ((j : Int) + 1) = (j : Int) + 1 := by rw [IntKind.wrap_i64]; omega
     have hjr : j < rows.length := by rw [HSH.out.1]; exact hlt3
     have hjr2 : (j : Int) < (rows.length : Int) := by omega
     obtain ⟨bp, op, hae, hbp, hcp⟩ := HL.out.row j hlt3
     subst hae
     obtain ⟨br, or', ak, ck, hae, hbr, hcr, hlr⟩ := HRL.out.row j hjr
     subst hae
     have hzz := HSH.out.2.1 j hlt3
     obtain ⟨x, hx⟩ : ∃ x : Nat, zat ps j = (x : Int) := ⟨(zat ps j).toNat, by omega⟩
     rw [hx] at hcp
     have hxl : x <= 1000000 := by omega
     have c1 := (hD.out.below.cell (p := ⟨bp, op + j, none⟩) hbp).trans hcp
     have c2 := (hD.out.below.cell (p := ⟨br, or' + j, none⟩) hbr).trans hcr
     have c3 := opn_c1 hD.out.opn
     have HMS : Hid (mput (L1 q (hd2 ps N 0 N) nodes k ++ L2 q n ps rows (j + 1)) = upd (mput (L1 q (hd2 ps N 0 N) nodes k ++ L2 q n ps rows j)) x (x + 1) (digl q n (0 :: rat rows j))) := by
      unfold Hid
      rw [L2_succ, <- List.append_assoc, mput_snoc, hx, Int.toNat_natCast]
     have HSR := hid (seerow_any q n d b s (B + 1) B ck x ak (rat rows j) _ wr HOKK.out (HSP.out.keep hD.out.below) hD.out.wlk hD.out.map hxl (by have := (HFR.out j hjr).2; omega) (HFR.out j hjr).1 ((hlr.below hD.out.below).mono hD.out.below.size))
     have HCW := hD
     clear hD hcp hcr hzz hx hlr
     go_wp2_with fail
     refine HSR.out.mono ?_
     rintro e w6 ⟨rfl, hmp6, hgb6⟩
     have HE : Hid (CkW w (B + 1) B s #[.slice (some ⟨bp, op, none⟩) ps.length cp, .slice (some ⟨br, or', none⟩) rows.length cr, .slice an' nodes.length cn] w6 (mput (L1 q (hd2 ps N 0 N) nodes k ++ L2 q n ps rows (j + 1)))) := by
      unfold Hid
      rw [HMS.out]
      exact HCW.out.gb hB1 hgb6 hmp6
     clear hmp6 hgb6
     go_wp2_with fail
     go_roundw
     case rel => exact ⟨j + 1, by omega, by go_num, HE⟩
     case measure => simp [intOf]; omega
    ·have hje : j = ps.length := by omega
     have HC2 : Hid (CkW w (B + 1) B s #[.slice ap ps.length cp, .slice ar rows.length cr, .slice an' nodes.length cn] wr (M0 q n N ps rows nodes)) := by
      have := hD.out
      rw [hje, HHL.out] at this
      exact this
     have hlt5 : ¬ (j : Int) < (ps.length : Int) := by omega
     clear hD hlt3 hj hje
     have hDv := DV_dgst (q := q) (n := n) (M := M0 q n N ps rows nodes) h3 (fun a b dd h => M0_dgst h3 (shwn_ok HSH.out) a b dd h)
     have HRT : Hid (Calls Tryz.prog 163 #[.pointer (some ⟨B + 1, 0, none⟩), .agg #[.int .i64 0, .int .i64 (N : Int)]] wr.drew fun e w' => e = .returned (d4 (DV q n (M0 q n N ps rows nodes) 0 N)) /\ Hid (∃ M', CkW w (B + 1) B s #[.slice ap ps.length cp, .slice ar rows.length cr, .slice an' nodes.length cn] w' M' /\ Snd M' (DV q n (M0 q n N ps rows nodes)) /\ ClM (M0 q n N ps rows nodes) M' /\ M' 0 N ≠ none)) := by
      have hcd : CkW w (B + 1) B s #[.slice ap ps.length cp, .slice ar rows.length cr, .slice an' nodes.length cn] wr.drew (M0 q n N ps rows nodes) := HC2.out.bl (Below.refl _ _).drew
      have hroot := wroot_any q n d b s (B + 1) B (DV q n (M0 q n N ps rows nodes)) (M0 q n N ps rows nodes) HOKK.out hDv (shwn_rd (q := q) (n := n) hs1 HSH.out).rdy (Nat.zero_le _) (by omega)
      refine (hroot (M0 q n N ps rows nodes) wr.drew (HSP.out.keep hcd.below) hcd.wlk hcd.map (fun _ _ h => h) (fun a b dd h => (DV_eq (.found h)).symm)).mono ?_
      rintro e w' ⟨rfl, ⟨M', g1, g2, g3, g4, g5⟩, hg⟩
      exact ⟨by rw [an4]; rfl, M', hcd.gb hB1 hg g1, g2, g4, g5⟩
     have HFd : Hid (∀ W, Hid (∃ M', CkW w (B + 1) B s #[.slice ap ps.length cp, .slice ar rows.length cr, .slice an' nodes.length cn] W M' /\ Snd M' (DV q n (M0 q n N ps rows nodes)) /\ ClM (M0 q n N ps rows nodes) M' /\ M' 0 N ≠ none) -> Calls Tryz.prog 19 #[.pointer (some ⟨s, 0, none⟩)] W fun e w' => e = .returned (.pointer (some ⟨b, 0, none⟩)) /\ w' = W) := fun W h => by
      obtain ⟨M', h1, _⟩ := h.out
      exact sfield_any q n d b s W (HSP.out.keep h1.below)
     have HDg : Hid (∀ W, Hid (∃ M', CkW w (B + 1) B s #[.slice ap ps.length cp, .slice ar rows.length cr, .slice an' nodes.length cn] W M' /\ Snd M' (DV q n (M0 q n N ps rows nodes)) /\ ClM (M0 q n N ps rows nodes) M' /\ M' 0 N ≠ none) -> Calls Tryz.prog 218 #[.pointer (some ⟨b, 0, none⟩), .slice a4 4 c4] W fun e w' => e = .returned (d4 (elr q root)) /\ Hid (∃ M', CkW w (B + 1) B s #[.slice ap ps.length cp, .slice ar rows.length cr, .slice an' nodes.length cn] w' M' /\ Snd M' (DV q n (M0 q n N ps rows nodes)) /\ ClM (M0 q n N ps rows nodes) M' /\ M' 0 N ≠ none)) := fun W h => by
      obtain ⟨M', h1, h2⟩ := h.out
      refine (digestof_any q b c4 a4 root W h3 hm (HSP.out.keep h1.below).p h4 HF4.out ((HL4.out.row.below h1.below).mono h1.below.size)).mono ?_
      rintro e w' ⟨rfl, hb'⟩
      have ed : an 4 (fun j => zat root j % (q : Int)) = an 4 (zat (elr q root)) := an_congr (fun j hj => by unfold elr; rw [ls_at _ _ _ (by omega)])
      exact ⟨by rw [ed, an4]; rfl, M', h1.bl hb', h2⟩
     have hqr := fun W => eqd_run (hDv 0 N).1 (show (elr q root).length = 4 by unfold elr; rw [ls_len]; exact h4) W
     go_wp2_with fail
     go_region_held3 (fun _ => True) (trivial)
      (first
       | (go_at_call 163; refine HRT.out.mono ?_; unfold d4; rintro e w' ⟨rfl, hP6⟩)
       | (go_at_call 19; refine (HFd.out _ (by assumption)).mono ?_; rintro e w' ⟨rfl, rfl⟩)
       | (go_at_call 218; refine (HDg.out _ (by assumption)).mono ?_; unfold d4; rintro e w' ⟨rfl, hP7⟩))
     go_wp2_with fail
     go_ret2
     exact ⟨B + 1, B, rfl, CkW.done hB1 hP7.out⟩
end Go.Proofs.YtlhjifpomchnfaaGreatDoor
