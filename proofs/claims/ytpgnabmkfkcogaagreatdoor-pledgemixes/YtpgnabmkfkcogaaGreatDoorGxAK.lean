/- Package tree: a walk's root, where it is not found: both its parts' roots. Package tree: a walk's root. Package tree: checked, where it is not taken. Two digests compared. -/
import Derived.Test.YtpgnabmkfkcogaaGreatDoorGxAJ
import Derived.Test.YtpgnabmkfkcogaaGreatDoorGxAI
namespace Go.Proofs.YtpgnabmkfkcogaaGreatDoor
open Go.RowKit

def fs : Code → Code
  | .seq a _ => a
  | c => c
/-- what each part's root answers -/
def RootIH (q n d b s g B : Nat) (D : Nat → Nat → List Int) (M0 : Nat → Nat → Option (List Int)) (x m : Nat) : Prop := ∀ (M : Nat → Nat → Option (List Int)) (w : World), SpgAt w s b q n d → WlkAt w g B s → MapIs w B M → Sub M0 M → Snd M D → Calls Tryz.prog 185 #[.pointer (some ⟨g, 0, none⟩), gk x m] w (RootR D M B x m w)

set_option maxRecDepth 100000 in
set_option maxHeartbeats 8000000 in
theorem root5 (q n d b s g B x y c m w3s : Nat) (D : Nat → Nat → List Int) (M0 M : Nat → Nat → Option (List Int)) (w W3 : World) (ok : SpgOk q n d) (hD : ∀ a b, Dgst q (D a b)) (hm : m = x + lft c) (hc : y = x + c) (hx : x ≤ 1000000) (hy : y ≤ 1000000) (h2 : 2 ≤ c) (hDe : D x y = digl q n (1 :: (D x m ++ D m y)))
    (ih1 : RootIH q n d b s g B D M0 x m) (ih2 : RootIH q n d b s g B D M0 m y) (h0 : Sub M0 M) (hsn : Snd M D) (hM : MapIs W3 B M) (hs : SpgAt W3 s b q n d) (hw : WlkAt W3 g B s)
    (hk : W3.rowIs w.heap.size 224 2 (duo (.int .i64 (x : Int)) (.int .i64 (y : Int)))) (hr : ArrI W3 (w.heap.size + 1) 236 4 (fun _ => 0)) (hL : W3.rowIs w3s 224 2 (duo (.int .i64 (x : Int)) (.int .i64 (m : Int)))) (hR : W3.rowIs (w3s + 1) 224 2 (duo (.int .i64 (m : Int)) (.int .i64 (y : Int)))) (hgb : w.grownBy W3 (some B)) (hBl : B < w.heap.size) (hw3 : w.heap.size ≤ w3s) (K : Act → World → Prop) (hK : ∀ a w', (sq (sq (sq (sq rootCode)))).wp Tryz.prog (bodyPost Tryz.prog Tryz.f185 (RootR D M B x y w)) a w' → K a w') :
    (fs (sq (sq (sq rootCode)))).wp Tryz.prog (Exit.then K (bodyPost Tryz.prog Tryz.f185 (RootR D M B x y w))) (rA5 g w.heap.size w3s B x m y (fun _ => undef)) W3 := by
  have hmx : Tryz.prog.follows .mixedOrders = true := by kernel_rfl
  have hBg : B ≠ g := fun e => by
    obtain ⟨es, ck, h1, _⟩ := hM
    unfold WlkAt at hw
    rw [e, hw] at h1
    cases h1
  have hBs : B ≠ s := fun e => by
    obtain ⟨es, ck, h1, _⟩ := hM
    have := hs.f
    rw [e] at h1
    simp [World.cell?, h1] at this
  have hBb : B ≠ b := fun e => by
    obtain ⟨es, ck, h1, _⟩ := hM
    have := hs.p
    rw [e] at h1
    simp [World.cell?, h1] at this
  have hsl := hs.lt
  have hbl := hs.ltb
  have hgl := hw.lt
  have hws := hgb.size
  have hll := hL.lt
  have hrl := hR.lt
  have hkl := hk.lt
  have hrsl := hr.lt
  have HI1 := hid ih1
  have HI2 := hid ih2
  have HS := hid hs
  have HW := hid hw
  have HLc := hid hL
  have HRc := hid hR
  have H0 := hid h0
  have HMM := hid hM
  have HSN := hid hsn
  have HK4 := hid hk
  have HAr4 := hid hr
  have HG3 := hid hgb
  have HFin : Hid (∀ (A A' : Nat) (W : World) (σ : Nat → Value), σ 6 = .pointer (some ⟨A, 0, none⟩) → σ 7 = .pointer (some ⟨A', 0, none⟩) → ArrI W A 236 4 (zat (D x m)) → ArrI W A' 236 4 (zat (D m y)) → PMx D M B x m y true true W → W3.grownBy W (some B) → (sq (sq (sq (sq rootCode)))).wp Tryz.prog (bodyPost Tryz.prog Tryz.f185 (RootR D M B x y w)) (rA5 g w.heap.size w3s B x m y σ) W) :=
    fun A A' W σ e6 e7 hA2 hA4 hpm hg => root6 q n d b s g B x y c m A A' w3s D M w W σ ok hD hm hc hx hy h2 hDe e6 e7 hA2 hA4 hpm (HS.out.blocks (gb_blk hg hsl (Ne.symm hBs)) (gb_blk hg hbl (Ne.symm hBb))) (HW.out.block (gb_blk hg hgl (Ne.symm hBg))) (HK4.out.of_block (gb_blk hg hkl (by omega))) (HAr4.out.block (gb_blk hg hrsl (by omega))) (gb_trans HG3.out hg) hBl hBg
  clear hs hw hL hR h0 hM hsn hk hr hgb hDe ih1 ih2 hm hc hD ok
  refine wp_of_eq (c := .region 5 _ true) rfl ?_
  refine wp_region_any hmx ?_
  refine wpAny_invC (sInv D M g B x m y W3.heap.size W3 (rA5 g w.heap.size w3s B x m y)) ?step ?done (by kernel_rfl) _ _ ⟨fun _ => undef, rfl, gb_drew (gb_refl _ _), ⟨M, HMM.out, HSN.out, fun _ _ h => h, fun _ _ h => .inl h, fun h => by simp at h, fun h => by simp at h⟩, fun _ => ⟨by simp, fun k hk hl => ?first, fun h => by simp at h⟩, fun h => by simp at h, fun h => by simp at h⟩
  case first =>
    rcases Nat.lt_or_ge k 10 with g | g
    · simp [g] at hl
    · omega
  case step =>
    intro L a W hcl hI i hi
    obtain ⟨σ, rfl, hgb, hpm, hT, hF1, hF2⟩ := hI
    have hi10 : i < 10 := lt_of_ready hi
    have hun := unlisted_of_ready hi
    have hsz : i < L.size := by
      rcases Nat.lt_or_ge i L.size with g | g
      · exact g
      · have := (mem_ready.1 hi).1
        simp [Array.getElem?_eq_none g] at this
    have hWs := hgb.size
    by_cases h8 : i = 8
    · subst h8
      have hd : ∀ k, depB .any _ 4 8 k = true → L.getD k false = true := fun k hk => dep_of_ready hcl hi hk
      obtain ⟨h9, hTo, h67⟩ := hT hun
      have e2 := hTo 2 (by omega) (hd 2 (by kernel_rfl))
      have e5 := hTo 5 (by omega) (hd 5 (by kernel_rfl))
      obtain ⟨A, e6, hA1, hA2⟩ := hTo 6 (by omega) (hd 6 (by kernel_rfl))
      obtain ⟨A', e7, hA3, hA4⟩ := hTo 7 (by omega) (hd 7 (by kernel_rfl))
      have hne : A ≠ A' := fun e => h67 (hd 6 (by kernel_rfl)) (hd 7 (by kernel_rfl)) (by rw [e6, e7, e])
      simp only [sF] at e2 e5
      have z0 := hA2.cell (i := 0) (by omega)
      have z1 := hA2.cell (i := 1) (by omega)
      have z2 := hA2.cell (i := 2) (by omega)
      have z3 := hA2.cell (i := 3) (by omega)
      have y0 := hA2.frozen 0
      have y1 := hA2.frozen 1
      have y2 := hA2.frozen 2
      have y3 := hA2.frozen 3
      have HA5 := hid (arr4_set hA2 (zat (D x m)))
      have HA6 := hid (hA4.block (heap_set4 W A A' (Ne.symm hne) (.int .i64 (zat (D x m) 0)) (.int .i64 (zat (D x m) 1)) (.int .i64 (zat (D x m) 2)) (.int .i64 (zat (D x m) 3))))
      have HG5 := hid (gb_far (gb_far (gb_far (gb_far hgb hA1 0 (.int .i64 (zat (D x m) 0))) hA1 1 (.int .i64 (zat (D x m) 1))) hA1 2 (.int .i64 (zat (D x m) 2))) hA1 3 (.int .i64 (zat (D x m) 3)))
      have HP5 := hid (hpm.block (heap_set4 W A B (by omega) (.int .i64 (zat (D x m) 0)) (.int .i64 (zat (D x m) 1)) (.int .i64 (zat (D x m) 2)) (.int .i64 (zat (D x m) 3))))
      refine wpOp_step rfl (fun K' hK' => ?_)
      rw [if_pos (by rfl)]
      simp only [rA5, e2, e6, d4]
      clear hA2 hA4 hT hTo hF1 hF2
      go_simp
      refine hK' _ _ ⟨σ, by simp only [rA5, e2, e5, e6, e7, d4], HG5.out, ?_, fun h => ?_, fun _ _ => ⟨A, A', e6, e7, e5, hA1, hA3, hne, HA5.out, HA6.out⟩, fun h => ?_⟩
      · rw [getD_set_other (by omega), getD_set_other (by omega)]; exact HP5.out
      · rw [getD_set_same hsz] at h; cases h
      · rw [getD_set_other (by omega), h9] at h; cases h
    by_cases h9 : i = 9
    · subst h9
      have hd : ∀ k, depB .any _ 4 9 k = true → L.getD k false = true := fun k hk => dep_of_ready hcl hi hk
      obtain ⟨A, A', e6, e7, e5, hA1, hA3, hne, hA2, hA4⟩ := hF1 (hd 8 (by kernel_rfl)) hun
      have z0 := hA4.cell (i := 0) (by omega)
      have z1 := hA4.cell (i := 1) (by omega)
      have z2 := hA4.cell (i := 2) (by omega)
      have z3 := hA4.cell (i := 3) (by omega)
      have y0 := hA4.frozen 0
      have y1 := hA4.frozen 1
      have y2 := hA4.frozen 2
      have y3 := hA4.frozen 3
      have HA5 := hid (arr4_set hA4 (zat (D m y)))
      have HA6 := hid (hA2.block (heap_set4 W A' A hne (.int .i64 (zat (D m y) 0)) (.int .i64 (zat (D m y) 1)) (.int .i64 (zat (D m y) 2)) (.int .i64 (zat (D m y) 3))))
      have HG5 := hid (gb_far (gb_far (gb_far (gb_far hgb hA3 0 (.int .i64 (zat (D m y) 0))) hA3 1 (.int .i64 (zat (D m y) 1))) hA3 2 (.int .i64 (zat (D m y) 2))) hA3 3 (.int .i64 (zat (D m y) 3)))
      have HP5 := hid (hpm.block (heap_set4 W A' B (by omega) (.int .i64 (zat (D m y) 0)) (.int .i64 (zat (D m y) 1)) (.int .i64 (zat (D m y) 2)) (.int .i64 (zat (D m y) 3))))
      refine wpOp_step rfl (fun K' hK' => ?_)
      rw [if_pos (by rfl)]
      simp only [rA5, e5, e7, d4]
      clear hA2 hA4 hT hF1 hF2
      go_simp
      refine hK' _ _ ⟨σ, by simp only [rA5, e5, e6, e7, d4], HG5.out, ?_, fun h => ?_, fun h => ?_, fun _ => ⟨A, A', e6, e7, e5, hA1, hA3, hne, HA6.out, HA5.out⟩⟩
      · rw [getD_set_other (by omega), getD_set_other (by omega)]; exact HP5.out
      · rw [getD_set_other (by omega), hd 8 (by kernel_rfl)] at h; cases h
      · intro h'
        rw [getD_set_same hsz] at h'; cases h'
    have hn8 : L.getD 8 false = false := by
      rcases hx8 : L.getD 8 false with _ | _
      · rfl
      · have : L.getD i false = true := by
          have hdd : depB .any _ 4 8 i = true → L.getD i false = true := fun hd => dep_listed hcl 4 8 hd (fun o ho => hcl 8 o ho hx8)
          have h14 : i = 0 ∨ i = 1 ∨ i = 2 ∨ i = 3 ∨ i = 4 ∨ i = 5 ∨ i = 6 ∨ i = 7 := by omega
          rcases h14 with rfl | rfl | rfl | rfl | rfl | rfl | rfl | rfl <;> exact hdd (by kernel_rfl)
        rw [hun] at this; cases this
    obtain ⟨hn9, hTo, h67⟩ := hT hn8
    clear hT hF1 hF2
    have hlc0 := (gb_cell hgb (p := ⟨w3s, 0, none⟩) (by show w3s < _; omega) (by show w3s ≠ B; omega)).trans (HLc.out.cell (i := 0) (by omega))
    have hlc1 := (gb_cell hgb (p := ⟨w3s, 1, none⟩) (by show w3s < _; omega) (by show w3s ≠ B; omega)).trans (HLc.out.cell (i := 1) (by omega))
    have hrc0 := (gb_cell hgb (p := ⟨w3s + 1, 0, none⟩) (by show w3s + 1 < _; omega) (by show w3s + 1 ≠ B; omega)).trans (HRc.out.cell (i := 0) (by omega))
    have hrc1 := (gb_cell hgb (p := ⟨w3s + 1, 1, none⟩) (by show w3s + 1 < _; omega) (by show w3s + 1 ≠ B; omega)).trans (HRc.out.cell (i := 1) (by omega))
    simp only [duo] at hlc0 hlc1 hrc0 hrc1
    have HSW : Hid (SpgAt W s b q n d) := HS.out.blocks (gb_blk hgb hsl (Ne.symm hBs)) (gb_blk hgb hbl (Ne.symm hBb))
    have HWW : Hid (WlkAt W g B s) := HW.out.block (gb_blk hgb hgl (Ne.symm hBg))
    have h14 : i = 0 ∨ i = 1 ∨ i = 2 ∨ i = 3 ∨ i = 4 ∨ i = 5 ∨ i = 6 ∨ i = 7 := by omega
    rcases h14 with rfl | rfl | rfl | rfl | rfl | rfl | rfl | rfl
    · refine wpOp_step rfl (fun K' hK' => ?_)
      rw [if_pos (by rfl)]
      simp only [rA5]
      go_simp
      exact hK' _ _ (sInv_next (i := 0) (v := .pointer (some ⟨g, 0, none⟩)) (by omega) hn8 hn9 hTo hgb (fun _ _ h => h) rfl (by rw [getD_set_other (by omega), getD_set_other (by omega)]; exact hpm) (by rw [getD_set_other (by omega), getD_set_other (by omega)]; exact h67) rfl)
    · refine wpOp_step rfl (fun K' hK' => ?_)
      rw [if_pos (by rfl)]
      simp only [rA5]
      go_simp
      exact hK' _ _ (sInv_next (i := 1) (v := .agg #[.int .i64 (x : Int), .int .i64 (m : Int)]) (by omega) hn8 hn9 hTo hgb (fun _ _ h => h) rfl (by rw [getD_set_other (by omega), getD_set_other (by omega)]; exact hpm) (by rw [getD_set_other (by omega), getD_set_other (by omega)]; exact h67) rfl)
    · have e0 := hTo 0 (by omega) (dep_of_ready hcl hi (by kernel_rfl))
      have e1 := hTo 1 (by omega) (dep_of_ready hcl hi (by kernel_rfl))
      simp only [sF] at e0 e1
      obtain ⟨M', hM1, hM2, hM3, hM4, _, hM6⟩ := hpm
      have HCa := hid (HI1.out M' W HSW.out HWW.out hM1 (fun a b h => hM3 a b (H0.out a b h)) hM2)
      unfold gk RootR at HCa
      refine wpOp_step rfl (fun K' hK' => ?_)
      rw [if_pos (by rfl)]
      simp only [rA5, e0, e1]
      go_simp
      refine HCa.out.mono ?_
      rintro e w' ⟨rfl, ⟨M2, g1, g2, g3, g4, g5⟩, hg⟩
      refine hK' _ _ (sInv_next (i := 2) (v := d4 (D x m)) (by omega) hn8 hn9 hTo (gb_trans hgb hg) (sF_step (B := B) (by omega) hg) rfl ⟨M2, g1, g2, fun a b h => g3 a b (hM3 a b h), clM_trans hM4 g3 g4, fun _ => g5, fun h => g3 _ _ (hM6 (by rwa [getD_set_other (by omega)] at h))⟩ (by rw [getD_set_other (by omega), getD_set_other (by omega)]; exact h67) (by rw [an4]; simp only [rA5, upd', e0, e1, d4]; rfl))
    · refine wpOp_step rfl (fun K' hK' => ?_)
      rw [if_pos (by rfl)]
      simp only [rA5]
      go_simp
      exact hK' _ _ (sInv_next (i := 3) (v := .pointer (some ⟨g, 0, none⟩)) (by omega) hn8 hn9 hTo hgb (fun _ _ h => h) rfl (by rw [getD_set_other (by omega), getD_set_other (by omega)]; exact hpm) (by rw [getD_set_other (by omega), getD_set_other (by omega)]; exact h67) rfl)
    · refine wpOp_step rfl (fun K' hK' => ?_)
      rw [if_pos (by rfl)]
      simp only [rA5]
      go_simp
      exact hK' _ _ (sInv_next (i := 4) (v := .agg #[.int .i64 (m : Int), .int .i64 (y : Int)]) (by omega) hn8 hn9 hTo hgb (fun _ _ h => h) rfl (by rw [getD_set_other (by omega), getD_set_other (by omega)]; exact hpm) (by rw [getD_set_other (by omega), getD_set_other (by omega)]; exact h67) rfl)
    · have e0 := hTo 3 (by omega) (dep_of_ready hcl hi (by kernel_rfl))
      have e1 := hTo 4 (by omega) (dep_of_ready hcl hi (by kernel_rfl))
      simp only [sF] at e0 e1
      obtain ⟨M', hM1, hM2, hM3, hM4, hM6, _⟩ := hpm
      have HCa := hid (HI2.out M' W HSW.out HWW.out hM1 (fun a b h => hM3 a b (H0.out a b h)) hM2)
      unfold gk RootR at HCa
      refine wpOp_step rfl (fun K' hK' => ?_)
      rw [if_pos (by rfl)]
      simp only [rA5, e0, e1]
      go_simp
      refine HCa.out.mono ?_
      rintro e w' ⟨rfl, ⟨M2, g1, g2, g3, g4, g5⟩, hg⟩
      refine hK' _ _ (sInv_next (i := 5) (v := d4 (D m y)) (by omega) hn8 hn9 hTo (gb_trans hgb hg) (sF_step (B := B) (by omega) hg) rfl ⟨M2, g1, g2, fun a b h => g3 a b (hM3 a b h), clM_trans hM4 g3 g4, fun h => g3 _ _ (hM6 (by rwa [getD_set_other (by omega)] at h)), fun _ => g5⟩ (by rw [getD_set_other (by omega), getD_set_other (by omega)]; exact h67) (by rw [an4]; simp only [rA5, upd', e0, e1, d4]; rfl))
    · refine wpOp_step rfl (fun K' hK' => ?_)
      rw [if_pos (by rfl)]
      simp only [rA5]
      go_simp
      refine hK' _ _ (sInv_next (i := 6) (v := .pointer (some ⟨W.heap.size, 0, none⟩)) (by omega) hn8 hn9 hTo (gb_trans hgb (World.grownBy_alloc _ _ _)) (sF_step (B := B) (by omega) (World.grownBy_alloc _ _ _)) ⟨W.heap.size, rfl, hWs, ArrI.new W 4 236 (fun _ => 0)⟩ (by rw [getD_set_other (by omega), getD_set_other (by omega)]; exact hpm.block (Below.heap_alloc _ _ _ (by omega))) ?_ rfl)
      intro _ h7
      rw [getD_set_other (by omega)] at h7
      obtain ⟨A', e7, hA3, hA4⟩ := hTo 7 (by omega) h7
      have := hA4.lt
      show Value.pointer (some ⟨W.heap.size, 0, none⟩) ≠ σ 7
      rw [e7]
      intro e
      injection e with e
      injection e with e
      injection e with e
      omega
    · refine wpOp_step rfl (fun K' hK' => ?_)
      rw [if_pos (by rfl)]
      simp only [rA5]
      go_simp
      refine hK' _ _ (sInv_next (i := 7) (v := .pointer (some ⟨W.heap.size, 0, none⟩)) (by omega) hn8 hn9 hTo (gb_trans hgb (World.grownBy_alloc _ _ _)) (sF_step (B := B) (by omega) (World.grownBy_alloc _ _ _)) ⟨W.heap.size, rfl, hWs, ArrI.new W 4 236 (fun _ => 0)⟩ (by rw [getD_set_other (by omega), getD_set_other (by omega)]; exact hpm.block (Below.heap_alloc _ _ _ (by omega))) ?_ rfl)
      intro h6 _
      rw [getD_set_other (by omega)] at h6
      obtain ⟨A', e7, hA3, hA4⟩ := hTo 6 (by omega) h6
      have := hA4.lt
      show σ 6 ≠ Value.pointer (some ⟨W.heap.size, 0, none⟩)
      rw [e7]
      intro e
      injection e with e
      injection e with e
      injection e with e
      omega
  case done =>
    intro L a W hall hI
    obtain ⟨σ, rfl, hgb, hpm, hT, hF1, hF2⟩ := hI
    obtain ⟨A, A', e6, e7, e5, hA1, hA3, hne, hA2, hA4⟩ := hF2 (hall 9 (by decide))
    rw [hall 2 (by decide), hall 5 (by decide)] at hpm
    exact hK _ _ (HFin.out A A' W σ e6 e7 hA2 hA4 hpm hgb)

end Go.Proofs.YtpgnabmkfkcogaaGreatDoor

namespace Go.Proofs.YtpgnabmkfkcogaaGreatDoor
open Go.RowKit

set_option maxRecDepth 100000 in
set_option maxHeartbeats 4000000 in
theorem wroot_new (q n d b s g B x y c m : Nat) (D : Nat → Nat → List Int) (M0 M : Nat → Nat → Option (List Int)) (w : World) (ok : SpgOk q n d) (hD : ∀ a b, Dgst q (D a b)) (hs : SpgAt w s b q n d) (hw : WlkAt w g B s) (hM : MapIs w B M) (hx : x ≤ 1000000) (hy : y ≤ 1000000) (hc : y = x + c) (hm : m = x + lft c) (h2 : 2 ≤ c) (hd : M x y = none) (h0 : Sub M0 M) (hsn : Snd M D)
    (hDe : D x y = digl q n (1 :: (D x m ++ D m y))) (ih1 : RootIH q n d b s g B D M0 x m) (ih2 : RootIH q n d b s g B D M0 m y) :
    Calls Tryz.prog 185 #[.pointer (some ⟨g, 0, none⟩), gk x y] w (RootR D M B x y w) := by
  have HPT : Hid (∀ W, Calls Tryz.prog 224 #[.agg #[.int .i64 (x : Int), .int .i64 (y : Int)]] W fun e w' => e = .returned (.tuple #[.agg #[.int .i64 (x : Int), .int .i64 (m : Int)], .agg #[.int .i64 (m : Int), .int .i64 (y : Int)]]) ∧ Below W.heap.size W w') := fun W => by rw [hm]; exact parts_any x y c hc hy W
  unfold gk
  have HR := hid (rootW_new (x := x) (y := y) hw hM)
  have hgl := hw.lt
  have hBl := hM.lt
  have HROOT : Hid (∀ (w3s : Nat) (W3 : World), Below w.heap.size w W3 → W3.rowIs w.heap.size 224 2 (duo (.int .i64 (x : Int)) (.int .i64 (y : Int))) → ArrI W3 (w.heap.size + 1) 236 4 (fun _ => 0) → W3.rowIs w3s 224 2 (duo (.int .i64 (x : Int)) (.int .i64 (m : Int))) → W3.rowIs (w3s + 1) 224 2 (duo (.int .i64 (m : Int)) (.int .i64 (y : Int))) → w.heap.size ≤ w3s → ∀ K : Act → World → Prop, (∀ a w', (sq (sq (sq (sq rootCode)))).wp Tryz.prog (bodyPost Tryz.prog Tryz.f185 (RootR D M B x y w)) a w' → K a w') →
      (fs (sq (sq (sq rootCode)))).wp Tryz.prog (Exit.then K (bodyPost Tryz.prog Tryz.f185 (RootR D M B x y w))) (rA5 g w.heap.size w3s B x m y (fun _ => undef)) W3) := fun w3s W3 hb hk hr hL hRr hw3 K hK =>
    root5 q n d b s g B x y c m w3s D M0 M w W3 ok hD hm hc hx hy h2 hDe ih1 ih2 h0 hsn (hM.below hb hBl) (hs.keep hb) (hw.block (hb.block _ hgl)) hk hr hL hRr (gb_below hb) hBl hw3 K hK
  clear hw hM hc hm hs hD hsn h0 hDe ih1 ih2
  go_enter Tryz.func185, Tryz.ntmps185
  go_wp2_with fail
  generalize (w.alloc (.cells #[.int .i64 (x : Int), .int .i64 (y : Int)] 224)).alloc (.cells #[.int .i64 0, .int .i64 0, .int .i64 0, .int .i64 0] 236) = W1 at *
  have hsz := HR.out.size
  have HK : Hid (∀ W, Below W1.heap.size W1 W → W.cell? ⟨g, 1, none⟩ = some (.map (some B)) ∧ W.cell? ⟨w.heap.size, 0, none⟩ = some (.int .i64 (x : Int)) ∧ W.cell? ⟨w.heap.size, 1, none⟩ = some (.int .i64 (y : Int)) ∧ W.heap[B]? = W1.heap[B]?) := fun W h =>
    ⟨(h.cell (p := ⟨g, 1, none⟩) (by show g < _; omega)).trans HR.out.c1, (h.cell (p := ⟨w.heap.size, 0, none⟩) (by show w.heap.size < _; omega)).trans (HR.out.key.cell (i := 0) (by omega)), (h.cell (p := ⟨w.heap.size, 1, none⟩) (by show w.heap.size < _; omega)).trans (HR.out.key.cell (i := 1) (by omega)), h.block B (by omega)⟩
  have hLk : ∀ W, W.heap[B]? = W1.heap[B]? → (Instr.lookup 277 (.map (some B)) (.agg #[.int .i64 (x : Int), .int .i64 (y : Int)]) true).run Tryz.prog W = .ok (.tuple #[.agg #[.int .i64 0, .int .i64 0, .int .i64 0, .int .i64 0], .bool false]) W := fun W h => by
    have := (HR.out.map.block h).lookup (a := x) (b := y) (by omega) (by omega) true
    rw [hd, show gotv M x y = (fun _ => 0) from by unfold gotv; rw [hd], an4] at this
    exact this
  go_region_held3 (fun w' => w'.cell? ⟨g, 1, none⟩ = some (.map (some B)) ∧ w'.cell? ⟨w.heap.size, 0, none⟩ = some (.int .i64 (x : Int)) ∧ w'.cell? ⟨w.heap.size, 1, none⟩ = some (.int .i64 (y : Int)) ∧ w'.heap[B]? = W1.heap[B]?)
    (first | exact HK.out _ (Below.refl _ _).drew | exact HK.out _ ((Below.refl _ _).drew.alloc (Nat.le_refl _) _)) (fail)
  all_goals (
    have HKe := hid (HR.out.key.alloc (.cells #[.int .i64 0, .int .i64 0, .int .i64 0, .int .i64 0] 236))
    have HAr := hid (HR.out.res.alloc (.cells #[.int .i64 0, .int .i64 0, .int .i64 0, .int .i64 0] 236)).drew
    have HBe : Hid (Below w.heap.size w (W1.alloc (.cells #[.int .i64 0, .int .i64 0, .int .i64 0, .int .i64 0] 236)).drew) := (HR.out.below.alloc (by omega) _).drew
    have HS2 : Hid ((W1.alloc (.cells #[.int .i64 0, .int .i64 0, .int .i64 0, .int .i64 0] 236)).drew.heap.size = w.heap.size + 3) := by unfold Hid; show (W1.alloc _).heap.size = _; simp; omega
    have hk0 : (W1.alloc (.cells #[.int .i64 0, .int .i64 0, .int .i64 0, .int .i64 0] 236)).drew.cell? ⟨w.heap.size, 0, none⟩ = some (.int .i64 (x : Int)) := HKe.out.cell (i := 0) (by omega)
    have hk1 : (W1.alloc (.cells #[.int .i64 0, .int .i64 0, .int .i64 0, .int .i64 0] 236)).drew.cell? ⟨w.heap.size, 1, none⟩ = some (.int .i64 (y : Int)) := HKe.out.cell (i := 1) (by omega)
    have HKe2 : Hid ((W1.alloc (.cells #[.int .i64 0, .int .i64 0, .int .i64 0, .int .i64 0] 236)).drew.rowIs w.heap.size 224 2 (duo (.int .i64 (x : Int)) (.int .i64 (y : Int)))) := HKe.out
    clear HK hLk HR hsz HKe
    generalize (W1.alloc (.cells #[.int .i64 0, .int .i64 0, .int .i64 0, .int .i64 0] 236)).drew = W2 at *
    go_wp2_with fail
    refine (HPT.out W2).mono ?_
    rintro e w3 ⟨rfl, hb3⟩
    have HB3 := hid (HBe.out.trans (hb3.mono (by rw [HS2.out]; omega)))
    have HAr3 := hid (HAr.out.block (hb3.block _ HAr.out.lt))
    have HK3 : Hid (w3.rowIs w.heap.size 224 2 (duo (.int .i64 (x : Int)) (.int .i64 (y : Int)))) := HKe2.out.of_block (hb3.block _ HKe2.out.lt)
    have hs3 : w.heap.size + 3 ≤ w3.heap.size := by have := hb3.size; rw [HS2.out] at this; exact this
    clear hb3 hk0 hk1 HAr HKe2 HBe HS2
    go_wp2_with fail
    have HLc := hid ((duo_new w3 224 (.int .i64 (x : Int)) (.int .i64 (m : Int))).alloc (.cells #[.int .i64 (m : Int), .int .i64 (y : Int)] 224))
    have HRc : Hid (((w3.alloc (.cells #[.int .i64 (x : Int), .int .i64 (m : Int)] 224)).alloc (.cells #[.int .i64 (m : Int), .int .i64 (y : Int)] 224)).rowIs (w3.heap.size + 1) 224 2 (duo (.int .i64 (m : Int)) (.int .i64 (y : Int)))) := by
      have := duo_new (w3.alloc (.cells #[.int .i64 (x : Int), .int .i64 (m : Int)] 224)) 224 (.int .i64 (m : Int)) (.int .i64 (y : Int))
      rwa [show (w3.alloc (.cells #[.int .i64 (x : Int), .int .i64 (m : Int)] 224)).heap.size = w3.heap.size + 1 from by simp] at this
    have HB33 : Hid (Below w3.heap.size w3 ((w3.alloc (.cells #[.int .i64 (x : Int), .int .i64 (m : Int)] 224)).alloc (.cells #[.int .i64 (m : Int), .int .i64 (y : Int)] 224))) := ((Below.refl _ _).alloc (Nat.le_refl _) _).alloc (by simp) _
    have hs4 : ((w3.alloc (.cells #[.int .i64 (x : Int), .int .i64 (m : Int)] 224)).alloc (.cells #[.int .i64 (m : Int), .int .i64 (y : Int)] 224)).heap.size = w3.heap.size + 2 := by simp
    generalize (w3.alloc (.cells #[.int .i64 (x : Int), .int .i64 (m : Int)] 224)).alloc (.cells #[.int .i64 (m : Int), .int .i64 (y : Int)] 224) = W3 at *
    have HBW : Hid (Below w.heap.size w W3) := HB3.out.trans (HB33.out.mono (by omega))
    have HAr4 := hid (HAr3.out.below HB33.out (by omega))
    have HK4 : Hid (W3.rowIs w.heap.size 224 2 (duo (.int .i64 (x : Int)) (.int .i64 (y : Int)))) := HK3.out.of_block (HB33.out.block _ (by omega))
    exact HROOT.out w3.heap.size W3 HBW.out HK4.out HAr4.out HLc.out HRc.out (by omega) _ (by assumption))

/-- a walk's root -/
theorem wroot_any (q n d b s g B : Nat) (D : Nat → Nat → List Int) (M0 : Nat → Nat → Option (List Int)) (ok : SpgOk q n d) (hD : ∀ a b, Dgst q (D a b)) {x y : Nat} (h : Rdy q n D M0 x y) (hxy : x ≤ y) (hy : y ≤ 1000000) : RootIH q n d b s g B D M0 x y := by
  induction h with
  | @found x y hf =>
    intro M w hs hw hM h0 hsn
    obtain ⟨dl, hdl⟩ := Option.ne_none_iff_exists'.1 (h0 x y hf)
    have := hsn x y dl hdl
    subst this
    refine (wroot_found s g B x y (D x y) M w hw hM (by omega) hy hdl).mono ?_
    rintro e w' ⟨rfl, hb⟩
    exact ⟨rfl, ⟨M, hM.below hb hM.lt, hsn, fun _ _ h => h, fun _ _ h => .inl h, by rw [hdl]; simp⟩, gb_below hb⟩
  | @node x y h2 hDe _ _ ih1 ih2 =>
    intro M w hs hw hM h0 hsn
    obtain ⟨_, l2, l3⟩ := lft_spec (y - x)
    have l3' := l3 h2
    cases hd : M x y with
    | some dl =>
      have := hsn x y dl hd
      subst this
      refine (wroot_found s g B x y (D x y) M w hw hM (by omega) hy hd).mono ?_
      rintro e w' ⟨rfl, hb⟩
      exact ⟨rfl, ⟨M, hM.below hb hM.lt, hsn, fun _ _ h => h, fun _ _ h => .inl h, by rw [hd]; simp⟩, gb_below hb⟩
    | none => exact wroot_new q n d b s g B x y (y - x) (x + lft (y - x)) D M0 M w ok hD hs hw hM (by omega) hy (by omega) rfl h2 hd h0 hsn hDe (ih1 (by omega) (by omega)) (ih2 (by omega) hy)

end Go.Proofs.YtpgnabmkfkcogaaGreatDoor

namespace Go.Proofs.YtpgnabmkfkcogaaGreatDoor
open Go.RowKit

end Go.Proofs.YtpgnabmkfkcogaaGreatDoor

namespace Go.Proofs.YtpgnabmkfkcogaaGreatDoor
open Go.RowKit

end Go.Proofs.YtpgnabmkfkcogaaGreatDoor
