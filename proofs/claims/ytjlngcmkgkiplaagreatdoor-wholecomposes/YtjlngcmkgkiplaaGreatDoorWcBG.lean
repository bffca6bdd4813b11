
import Derived.Test.YtjlngcmkgkiplaaGreatDoorWcBF
import Derived.Test.YtjlngcmkgkiplaaGreatDoorWcAX
import Derived.Test.YtjlngcmkgkiplaaGreatDoorWcAY
import Derived.Test.YtjlngcmkgkiplaaGreatDoorWcBA
import Derived.Test.YtjlngcmkgkiplaaGreatDoorWcAZ
set_option maxRecDepth 1000000
set_option maxHeartbeats 8000000
namespace Go.Proofs.YtjlngcmkgkiplaaGreatDoor
open Go.RowKit Go.Maps
theorem rofk_any (nL k : Nat) (w : World) (hn : nL <= 4398046511104) :
  Calls Tryz.prog 63 #[.int .i64 (nL : Int), .int .i64 (k : Int)] w fun e w' => e = .returned (.int .i64 (rkd nL k)) /\ w' = w := by
 have w12 : IntKind.i64.wrap ((nL : Int) + 12) = (nL : Int) + 12 := by rw [IntKind.wrap_i64]; omega
 have w18 : IntKind.i64.wrap ((nL : Int) + 18) = (nL : Int) + 18 := by rw [IntKind.wrap_i64]; omega
 have w24 : IntKind.i64.wrap ((nL : Int) + 24) = (nL : Int) + 24 := by rw [IntKind.wrap_i64]; omega
 obtain ⟨R, hR⟩ := exE (rkd nL k)
 rw [<- hR]
 by_cases h1 : k < nL + 12
 ·have HE : Hid (R = 0) := by unfold Hid; rw [hR]; simp [rkd, h1]
  have q1 : (k : Int) < (nL : Int) + 12 := by omega
  clear hR h1 hn
  go_enter Tryz.func63, Tryz.ntmps63
  go_wp2_with fail
  go_ret
  exact ⟨by have h := HE.out; subst h; rfl, rfl⟩
 ·by_cases h2 : k < nL + 18
  ·have HE : Hid (R = 1) := by unfold Hid; rw [hR]; simp [rkd, h1, h2]
   have q1 : ¬ (k : Int) < (nL : Int) + 12 := by omega
   have q2 : (k : Int) < (nL : Int) + 18 := by omega
   clear hR h1 h2 hn
   go_enter Tryz.func63, Tryz.ntmps63
   go_wp2_with fail
   go_ret
   exact ⟨by have h := HE.out; subst h; rfl, rfl⟩
  ·by_cases h3 : k < nL + 24
   ·have HE : Hid (R = 2) := by unfold Hid; rw [hR]; simp [rkd, h1, h2, h3]
    have q1 : ¬ (k : Int) < (nL : Int) + 12 := by omega
    have q2 : ¬ (k : Int) < (nL : Int) + 18 := by omega
    have q3 : (k : Int) < (nL : Int) + 24 := by omega
    clear hR h1 h2 h3 hn
    go_enter Tryz.func63, Tryz.ntmps63
    go_wp2_with fail
    go_ret
    exact ⟨by have h := HE.out; subst h; rfl, rfl⟩
   ·have HE : Hid (R = 3) := by unfold Hid; rw [hR]; simp [rkd, h1, h2, h3]
    have q1 : ¬ (k : Int) < (nL : Int) + 12 := by omega
    have q2 : ¬ (k : Int) < (nL : Int) + 18 := by omega
    have q3 : ¬ (k : Int) < (nL : Int) + 24 := by omega
    clear hR h1 h2 h3 hn
    go_enter Tryz.func63, Tryz.ntmps63
    go_wp2_with fail
    go_ret
    exact ⟨by have h := HE.out; subst h; rfl, rfl⟩
theorem cmz_len (q n : Nat) (e t : Int) (L : List InsZ) (size out : Int) (r r' : List Int) (z z' x y : Int) : (cmz q n e t L size out r r' z z' x y).length = L.length + 28 := by simp [cmz, ls]
theorem cmz_lo (q n : Nat) (e t : Int) (L : List InsZ) (size out : Int) (r r' : List Int) (z z' x y : Int) {k : Nat} (h : k < L.length + 26) : zat (cmz q n e t L size out r r' z z' x y) k = zat (rls q L size out r r') k * ivz q n e t (rkd L.length k).toNat % (q : Int) := by
 unfold cmz
 rw [<- ls_at (fun k => zat (rls q L size out r r') k * ivz q n e t (rkd L.length k).toNat % (q : Int)) (L.length + 26) k h]
 generalize hF : ls (fun k => zat (rls q L size out r r') k * ivz q n e t (rkd L.length k).toNat % (q : Int)) (L.length + 26) = F
 have h1 : k < F.length := by rw [<- hF, ls_len]; exact h
 unfold zat
 rw [List.getElem?_append_left h1]
theorem cmz_26 (q n : Nat) (e t : Int) (L : List InsZ) (size out : Int) (r r' : List Int) (z z' x y : Int) : zat (cmz q n e t L size out r r' z z' x y) (L.length + 26) = pasz q r x y z z' * ivz q n e t 0 % (q : Int) := by
 unfold cmz
 simp [zat, ls]
theorem cmz_27 (q n : Nat) (e t : Int) (L : List InsZ) (size out : Int) (r r' : List Int) (z z' x y : Int) : zat (cmz q n e t L size out r r' z z' x y) (L.length + 27) = (z - 1) % (q : Int) * ivz q n e t 2 % (q : Int) := by
 unfold cmz
 simp [zat, ls]
theorem ps_next {q : Nat} (f : Nat -> Int) (a : Int) (k : Nat) : (Pol.ps f a k % (q : Int) + f k * (a ^ k % (q : Int)) % (q : Int)) % (q : Int) = Pol.ps f a (k + 1) % (q : Int) := by
 rw [Pol.ps, Int.mul_emod (f k), Int.emod_emod_of_dvd _ (Int.dvd_refl _), <- Int.mul_emod, <- Int.add_emod]
theorem pw_next {q : Nat} (a : Int) (k : Nat) : a ^ k % (q : Int) * a % (q : Int) = a ^ (k + 1) % (q : Int) := by
 rw [Int.mul_emod, Int.emod_emod_of_dvd _ (Int.dvd_refl _), <- Int.mul_emod, Int.pow_succ]
theorem rcomposed_any (t q n g rH rD cL cr cn i : Nat) (size out x y a gg z z' : Int) (aL ar an : Option Addr) (L : List InsZ) (r r' : List Int) (w : World) (hpr : Num.Prime q) (H : VF q L size out r r') (hT : RTA w t q n g rH rD size out aL L.length cL x y a gg) (hl : L.length <= 64) (hn0 : 0 < n) (hn : n <= 512) (hrH : rH < q) (hrD : rD < q) (hg : g < q) (hi : i < 8 * n)
  (hx : I64 x) (hy : I64 y) (ha : I64 a) (hz : I64 z) (hz' : I64 z') (hI : LstI w.heap.size w aL cL L) (hr : Lst w.heap.size w ar cr r) (hr' : Lst w.heap.size w an cn r') :
  Calls Tryz.prog 31 #[.pointer (some ⟨t, 0, none⟩), .int .i64 (i : Int), .slice ar r.length cr, .slice an r'.length cn, .int .i64 z, .int .i64 z'] w fun e w' =>
   e = .returned (.int .i64 (evz q (cmz q n (Dom.pt q 1 rH (n - 1)) (Dom.pt q g rD i) L size out r r' z z' x y) a)) /\ Below w.heap.size w w' := by
 have h3 := H.h3
 have h4 := H.h4
 obtain ⟨N, hN⟩ := exE (8 * n)
 have iN0 : ¬ (N : Int) = 0 := by omega
 have iN1 : ¬ N = 0 := by omega
 have iTm : Int.tmod (i : Int) (N : Int) = (i : Int) := by rw [Int.tmod_eq_emod_of_nonneg (by omega), Int.emod_eq_of_lt (by omega) (by omega)]
 have iWr : IntKind.i64.wrap (i : Int) = (i : Int) := by rw [IntKind.wrap_i64]; omega
 have HPT := hid (fun W => rpoint_any q i (N : Int) rD g W h3 h4 (by omega) (by omega) (by omega) (by omega) (by omega))
 have bpt := pt_bd h3 (g : Int) (rD : Int) i
 obtain ⟨pt, hpt⟩ := exE (Dom.pt q (g : Int) (rD : Int) i)
 rw [<- hpt] at HPT bpt ⊢
 obtain ⟨l, hlz⟩ := exE (cmz q n (Dom.pt q 1 rH (n - 1)) pt L size out r r' z z' x y)
 have HLL : Hid (l.length = L.length + 28) := by unfold Hid; rw [hlz]; exact cmz_len ..
 obtain ⟨Ru, hRu⟩ : ∃ Ru : Nat -> Int, Ru = fun k => zat (rls q L size out r r') k := ⟨_, rfl⟩
 obtain ⟨kd, hkd⟩ : ∃ kd : Nat -> Nat, kd = fun k => (rkd L.length k).toNat := ⟨_, rfl⟩
 have HKD : Hid (∀ k, rkd L.length k = (kd k : Int) /\ kd k < 4) := fun k => by
  have h0 : 0 <= rkd L.length k /\ rkd L.length k < 4 := by
   unfold rkd
   repeat' split
   all_goals omega
  rw [hkd]
  exact ⟨(Int.toNat_of_nonneg h0.1).symm, by show (rkd L.length k).toNat < 4; omega⟩
 have bm := fun a => emod_bounds a q h3
 have HRB : Hid (∀ j, I64 (Ru j)) := fun j => by
  rw [hRu]
  show I64 (zat (rls q L size out r r') j)
  have := zat_memR (P := fun x => 0 <= x /\ x < (q : Int)) (l := rls q L size out r r') (by omega) (fun x hx => rls_bd h3 L size out r r' x hx) j
  unfold I64; omega
 have bp : 0 <= pasz q r x y z z' /\ pasz q r x y z z' < (q : Int) := emod_bounds _ q h3
 have bz := bm (z - 1)
 have HDL : Hid (∀ k, k < L.length + 26 -> ∀ W, Below w.heap.size w W -> Calls Tryz.prog 67 #[.pointer (some ⟨t, 0, none⟩), .int .i64 (Ru k), .int .i64 (kd k : Int), .int .i64 pt] W fun e w' => e = .returned (.int .i64 (zat l k)) /\ Below W.heap.size W w') := fun k hk W hW => by
  rw [hlz, cmz_lo _ _ _ _ _ _ _ _ _ _ _ _ _ hk, show (rkd L.length k).toNat = kd k from by rw [hkd], show zat (rls q L size out r r') k = Ru k from by rw [hRu]]
  exact rdivided_any t q n g rH rD L.length cL (kd k) size out x y a gg (Ru k) pt aL W hpr h3 h4 (hT.below hW hT.lt) hn0 hn hrH (HRB.out k) (by unfold I64; omega) (HKD.out k).2
 have HD6 : Hid (∀ W, Below w.heap.size w W -> Calls Tryz.prog 67 #[.pointer (some ⟨t, 0, none⟩), .int .i64 (pasz q r x y z z'), .int .i64 0, .int .i64 pt] W fun e w' => e = .returned (.int .i64 (zat l (L.length + 26))) /\ Below W.heap.size W w') := fun W hW => by
  rw [hlz, cmz_26]
  exact rdivided_any t q n g rH rD L.length cL 0 size out x y a gg _ pt aL W hpr h3 h4 (hT.below hW hT.lt) hn0 hn hrH (by unfold I64; omega) (by unfold I64; omega) (by omega)
 have HD7 : Hid (∀ W, Below w.heap.size w W -> Calls Tryz.prog 67 #[.pointer (some ⟨t, 0, none⟩), .int .i64 ((z - 1) % (q : Int)), .int .i64 2, .int .i64 pt] W fun e w' => e = .returned (.int .i64 (zat l (L.length + 27))) /\ Below W.heap.size W w') := fun W hW => by
  rw [hlz, cmz_27]
  exact rdivided_any t q n g rH rD L.length cL 2 size out x y a gg _ pt aL W hpr h3 h4 (hT.below hW hT.lt) hn0 hn hrH (by unfold I64; omega) (by unfold I64; omega) (by omega)
 have HPR := hid (fun W (hW : Below w.heap.size w W) => rproduct_any t q n g rH rD L.length cL cr size out x y a gg z z' aL ar r W h3 h4 (hT.below hW hT.lt) hx hy hz hz' ((hr.below hW).mono hW.size) (fun j _ => H.fr j) (by have := H.hr; omega) (by have := H.hr; omega))
 have HSZ := hid (fun W => rsub_any q z 1 W h3 h4 hz.1 hz.2 (by omega) (by omega))
 have HOF : Hid (∀ k W, Calls Tryz.prog 63 #[.int .i64 (L.length : Int), .int .i64 (k : Nat)] W fun e w' => e = .returned (.int .i64 (kd k : Int)) /\ w' = W) := fun k W => by rw [<- (HKD.out k).1]; exact rofk_any L.length k W (by omega)
 have HLB : Hid (∀ k, I64 (zat l k)) := fun k => by
  rw [hlz]
  by_cases c1 : k < L.length + 26
  ·rw [cmz_lo _ _ _ _ _ _ _ _ _ _ _ _ _ c1]
   have := bm (zat (rls q L size out r r') k * ivz q n (Dom.pt q 1 rH (n - 1)) pt (rkd L.length k).toNat)
   unfold I64; omega
  ·by_cases c2 : k = L.length + 26
   ·rw [c2, cmz_26]
    have := bm (pasz q r x y z z' * ivz q n (Dom.pt q 1 rH (n - 1)) pt 0)
    unfold I64; omega
   ·by_cases c5 : k = L.length + 27
    ·rw [c5, cmz_27]
     have := bm ((z - 1) % (q : Int) * ivz q n (Dom.pt q 1 rH (n - 1)) pt 2)
     unfold I64; omega
    ·have : zat (cmz q n (Dom.pt q 1 rH (n - 1)) pt L size out r r' z z' x y) k = 0 := by
      unfold zat
      rw [List.getElem?_eq_none (by rw [cmz_len]; omega)]
      rfl
     rw [this]; unfold I64; omega
 rw [<- hlz]
 have HEV : Hid (evz q l a = Pol.ps (zat l) a (L.length + 28) % (q : Int)) := by unfold Hid evz; rw [HLL.out]
 have HCS : Hid (∀ W, Below w.heap.size w W -> W.cell? ⟨t, 0, none⟩ = some (.int .i64 q) /\ W.cell? ⟨t, 1, none⟩ = some (.int .i64 size) /\ W.cell? ⟨t, 2, none⟩ = some (.slice aL L.length cL) /\ W.cell? ⟨t, 3, none⟩ = some (.int .i64 out) /\ W.cell? ⟨t, 9, none⟩ = some (.int .i64 q) /\ W.cell? ⟨t, 10, none⟩ = some (.int .i64 (N : Int)) /\ W.cell? ⟨t, 11, none⟩ = some (.int .i64 (g : Int)) /\ W.cell? ⟨t, 12, none⟩ = some (.int .i64 rD) /\ W.cell? ⟨t, 15, none⟩ = some (.int .i64 a) /\ True) := fun W hW => by
  have h := hT.below hW hT.lt
  exact ⟨h.cell 0 rfl, h.cell 1 rfl, h.cell 2 rfl, h.cell 3 rfl, h.cell 9 rfl, by rw [hN]; exact h.cell 10 rfl, h.cell 11 rfl, h.cell 12 rfl, h.cell 15 rfl, trivial⟩
 have HWR : Hid (∀ (V : Nat) W, Below w.heap.size w W -> W.heap[V]? = some (.cells #[.int .i64 q, .int .i64 size, .slice aL L.length cL, .int .i64 out, .slice ar r.length cr, .slice an r'.length cn] 106 (0, 0)) -> ∀ k, k < L.length + 26 -> Calls Tryz.prog 66 #[.pointer (some ⟨V, 0, none⟩), .int .i64 (k : Int)] W fun e w' => e = .returned (.int .i64 (Ru k)) /\ Below W.heap.size W w') := fun V W hW hV k hk => by
  rw [show Ru k = zat (rls q L size out r r') k from by rw [hRu]]
  exact wrule_any q V L size out r r' aL cL ar cr an cn W H ⟨hV, (hI.below hW).mono hW.size, RowB.mono hW.size (RowB.below hW hr.row), RowB.mono hW.size (RowB.below hW hr'.row)⟩ k hk
 obtain ⟨nL, hnl⟩ := exE (L.length)
 obtain ⟨m, hm⟩ := exE (r.length)
 have hm' : r'.length = m := by rw [hm, H.hr, H.hn]
 rw [<- hm] at HPR
 rw [<- hm, hm'] at HWR
 rw [<- hnl] at HD6 HD7 HEV hl
 simp only [<- hnl] at HDL HOF HCS HWR HLL
 rw [<- hm, hm']
 obtain ⟨R, hR⟩ := exE (evz q l a)
 rw [<- hR] at HEV ⊢
 have w26 : IntKind.i64.wrap ((nL : Int) + 26) = (nL : Int) + 26 := by rw [IntKind.wrap_i64]; omega
 have w27 : IntKind.i64.wrap ((nL : Int) + 27) = (nL : Int) + 27 := by rw [IntKind.wrap_i64]; omega
 have w28 : IntKind.i64.wrap ((nL : Int) + 28) = (nL : Int) + 28 := by rw [IntKind.wrap_i64]; omega
 generalize pasz q r x y z z' = pz at *
 generalize (z - 1) % (q : Int) = zs at *
 have k2 := (HCS.out w (Below.refl _ _)).2.2.1
 have HQA := hid (And.intro h3 (And.intro h4 ha))
 clear hlz hRu hkd bm bp bz hT hx hy hz hz' ha hI hr hr' hN hpt hnl hm hm' hR H hpr hn0 hrH hrD hg bpt HKD HRB HLL
 go_enter Tryz.func31, Tryz.ntmps31
 go_wp2_with fail
 refine wp_region_held_drew (S := fun W => W.cell? ⟨t, 0, none⟩ = some (.int .i64 q) /\ W.cell? ⟨t, 1, none⟩ = some (.int .i64 size) /\ W.cell? ⟨t, 2, none⟩ = some (.slice aL nL cL) /\ W.cell? ⟨t, 3, none⟩ = some (.int .i64 out) /\ W.cell? ⟨t, 9, none⟩ = some (.int .i64 q) /\ W.cell? ⟨t, 10, none⟩ = some (.int .i64 (N : Int)) /\ W.cell? ⟨t, 11, none⟩ = some (.int .i64 (g : Int)) /\ W.cell? ⟨t, 12, none⟩ = some (.int .i64 rD) /\ W.cell? ⟨t, 15, none⟩ = some (.int .i64 a) /\ True) (by kernel_rfl) (HCS.out w.drew (Below.refl _ _).drew) (fun hHeld => ?_)
 refine tkU 0 (.pointer (some ⟨t, 0, none⟩)) rfl (fun W hC => by go_simp) hHeld ?_
 simp only [Act.put, aS0, aS1, aS2]
 refine tkU 1 (.pointer (some ⟨t, 0, none⟩)) rfl (fun W hC => by go_simp) hHeld ?_
 simp only [Act.put, aS0, aS1, aS2]
 refine tkU 2 (.pointer (some ⟨t, 9, none⟩)) rfl (fun W hC => by go_simp) hHeld ?_
 simp only [Act.put, aS0, aS1, aS2]
 refine tkU 3 (.agg #[.int .i64 q, .int .i64 (N : Int), .int .i64 (g : Int), .int .i64 rD]) rfl (fun W hC => by (obtain ⟨y0, y1, y2, y3, y4, y5, y6, y7, y8, y9⟩ := hC); go_simp) hHeld ?_
 simp only [Act.put, aS0, aS1, aS2]
 refine tkU 4 (.int .i64 (i : Int)) rfl (fun W hC => by go_simp) hHeld ?_
 simp only [Act.put, aS0, aS1, aS2]
 refine tkU 5 (.pointer (some ⟨t, 0, none⟩)) rfl (fun W hC => by go_simp) hHeld ?_
 simp only [Act.put, aS0, aS1, aS2]
 refine tkU 6 (.pointer (some ⟨t, 0, none⟩)) rfl (fun W hC => by go_simp) hHeld ?_
 simp only [Act.put, aS0, aS1, aS2]
 refine tkU 7 (.pointer (some ⟨t, 9, none⟩)) rfl (fun W hC => by go_simp) hHeld ?_
 simp only [Act.put, aS0, aS1, aS2]
 refine tkU 8 (.pointer (some ⟨t, 10, none⟩)) rfl (fun W hC => by go_simp) hHeld ?_
 simp only [Act.put, aS0, aS1, aS2]
 refine tkU 9 (.int .i64 (N : Int)) rfl (fun W hC => by (obtain ⟨y0, y1, y2, y3, y4, y5, y6, y7, y8, y9⟩ := hC); go_simp) hHeld ?_
 simp only [Act.put, aS0, aS1, aS2]
 refine tkU 10 (.int .i64 (i : Int)) rfl (fun W hC => by go_simp) hHeld ?_
 simp only [Act.put, aS0, aS1, aS2]
 refine wpAnyH_ready (rs := [11]) (by kernel_rfl) (by simp) ?_
 refine AllReadyH.consU rfl (fun K' hK' => ?_) AllReadyH.nil
 go_simp
 refine (HPT.out w.drew).mono ?_
 rintro e w1 ⟨rfl, hb1⟩
 have hb1' : Below w.heap.size w w1 := ⟨hb1.os, hb1.tape, hb1.output, hb1.size, hb1.block⟩
 have HB1 := hid hb1'
 refine hK'.out _ _ (HCS.out w1 hb1') (fun hHeld => ?_)
 clear hK' K'
 refine tkU 12 (.int .i64 pt) rfl (fun W hC => by go_simp) hHeld ?_
 simp only [Act.put, aS0, aS1, aS2]
 refine wpAnyH_done (by kernel_rfl) ?_ _
 clear hHeld hb1 hb1' HPT k2
 obtain ⟨W3, hW3⟩ := exE (w1.drew.alloc (.cells #[.int .i64 q, .int .i64 size, .slice aL nL cL, .int .i64 out, .slice ar m cr, .slice an m cn] 106))
 have hb3 : Below w1.heap.size w1 W3 := by rw [hW3]; exact (Below.refl w1.heap.size w1).drew.alloc (Nat.le_refl _) _
 have hV3 : W3.heap[w1.heap.size]? = some (.cells #[.int .i64 q, .int .i64 size, .slice aL nL cL, .int .i64 out, .slice ar m cr, .slice an m cn] 106 (0, 0)) := by rw [hW3]; exact heap_alloc_new w1.drew _
 have HB3 := hid (HB1.out.trans (hb3.mono HB1.out.size))
 obtain ⟨V, hV⟩ := exE (w1.heap.size)
 rw [<- hV] at hV3
 have HRUL : Hid (∀ W, Below W3.heap.size W3 W -> ∀ k, k < nL + 26 -> Calls Tryz.prog 66 #[.pointer (some ⟨V, 0, none⟩), .int .i64 (k : Int)] W fun e w' => e = .returned (.int .i64 (Ru k)) /\ Below W.heap.size W w') := fun W hW => HWR.out V W (HB3.out.trans (hW.mono HB3.out.size)) ((hW.block V (Array.getElem?_eq_some_iff.1 hV3).1).trans hV3)
 clear hb3 hV3 HWR
 go_wp2_with fail
 refine wp_region_held_drew (S := fun W => W.cell? ⟨t, 0, none⟩ = some (.int .i64 q) /\ W.cell? ⟨t, 1, none⟩ = some (.int .i64 size) /\ W.cell? ⟨t, 2, none⟩ = some (.slice aL nL cL) /\ W.cell? ⟨t, 3, none⟩ = some (.int .i64 out) /\ W.cell? ⟨t, 9, none⟩ = some (.int .i64 q) /\ W.cell? ⟨t, 10, none⟩ = some (.int .i64 (N : Int)) /\ W.cell? ⟨t, 11, none⟩ = some (.int .i64 (g : Int)) /\ W.cell? ⟨t, 12, none⟩ = some (.int .i64 rD) /\ W.cell? ⟨t, 15, none⟩ = some (.int .i64 a) /\ True) (by kernel_rfl) (HCS.out w1.drew HB1.out.drew) (fun hHeld => ?_)
 refine tkU 0 (.pointer (some ⟨t, 0, none⟩)) rfl (fun W hC => by go_simp) hHeld ?_
 simp only [Act.put, aS0, aS1, aS2]
 refine tkU 1 (.pointer (some ⟨t, 0, none⟩)) rfl (fun W hC => by go_simp) hHeld ?_
 simp only [Act.put, aS0, aS1, aS2]
 refine tkU 2 (.pointer (some ⟨t, 0, none⟩)) rfl (fun W hC => by go_simp) hHeld ?_
 simp only [Act.put, aS0, aS1, aS2]
 refine tkU 3 (.int .i64 q) rfl (fun W hC => by (obtain ⟨y0, y1, y2, y3, y4, y5, y6, y7, y8, y9⟩ := hC); go_simp) hHeld ?_
 simp only [Act.put, aS0, aS1, aS2]
 refine tkU 4 (.pointer (some ⟨t, 0, none⟩)) rfl (fun W hC => by go_simp) hHeld ?_
 simp only [Act.put, aS0, aS1, aS2]
 refine tkU 5 (.pointer (some ⟨t, 0, none⟩)) rfl (fun W hC => by go_simp) hHeld ?_
 simp only [Act.put, aS0, aS1, aS2]
 refine tkU 6 (.pointer (some ⟨t, 1, none⟩)) rfl (fun W hC => by go_simp) hHeld ?_
 simp only [Act.put, aS0, aS1, aS2]
 refine tkU 7 (.agg #[.int .i64 size, .slice aL nL cL]) rfl (fun W hC => by (obtain ⟨y0, y1, y2, y3, y4, y5, y6, y7, y8, y9⟩ := hC); go_simp) hHeld ?_
 simp only [Act.put, aS0, aS1, aS2]
 refine tkU 8 (.pointer (some ⟨t, 0, none⟩)) rfl (fun W hC => by go_simp) hHeld ?_
 simp only [Act.put, aS0, aS1, aS2]
 refine tkU 9 (.pointer (some ⟨t, 0, none⟩)) rfl (fun W hC => by go_simp) hHeld ?_
 simp only [Act.put, aS0, aS1, aS2]
 refine tkU 10 (.pointer (some ⟨t, 3, none⟩)) rfl (fun W hC => by go_simp) hHeld ?_
 simp only [Act.put, aS0, aS1, aS2]
 refine tkU 11 (.int .i64 out) rfl (fun W hC => by (obtain ⟨y0, y1, y2, y3, y4, y5, y6, y7, y8, y9⟩ := hC); go_simp) hHeld ?_
 simp only [Act.put, aS0, aS1, aS2]
 refine tkU 12 (.slice ar m cr) rfl (fun W hC => by go_simp) hHeld ?_
 simp only [Act.put, aS0, aS1, aS2]
 refine tkU 13 (.slice an m cn) rfl (fun W hC => by go_simp) hHeld ?_
 simp only [Act.put, aS0, aS1, aS2]
 refine tkU 14 (.agg #[.int .i64 q, .int .i64 size, .slice aL nL cL, .int .i64 out, .slice ar m cr, .slice an m cn]) rfl (fun W hC => by go_simp) hHeld ?_
 simp only [Act.put, aS0, aS1, aS2]
 refine wpAnyH_ready (rs := [15]) (by kernel_rfl) (by simp) ?_
 refine AllReadyH.consU rfl (fun K' hK' => ?_) AllReadyH.nil
 go_simp
 rw [show (w1.alloc (.cells #[.int .i64 q, .int .i64 size, .slice aL nL cL, .int .i64 out, .slice ar m cr, .slice an m cn] 106)).drew = W3 from by rw [hW3]; rfl, <- hV]
 refine hK'.out _ _ (HCS.out W3 HB3.out) (fun hHeld => ?_)
 clear hK' K' hW3 hV
 refine tkU 16 (.pointer (some ⟨V, 0, none⟩)) rfl (fun W hC => by go_simp) hHeld ?_
 simp only [Act.put, aS0, aS1, aS2]
 refine wpAnyH_done (by kernel_rfl) ?_ _
 clear hHeld HB1
 go_wp2_with fail
 go_loopw [16, 17, 18, 19, 20] (fun sv pv iv _ _ wr => ∃ k : Nat, k <= nL + 28 /\ iv = .int .i64 k /\ sv = .int .i64 (Pol.ps (zat l) a k % (q : Int)) /\ pv = .int .i64 (a ^ k % (q : Int)) /\ Hid (Below W3.heap.size W3 wr)) (fun _ _ iv _ _ _ => nL + 28 - (intOf iv).toNat)
 case atStart => exact ⟨0, Nat.zero_le _, rfl, by simp [Pol.ps], by rw [Int.pow_zero, Int.emod_eq_of_lt (by omega) (by omega)], Below.refl _ _⟩
 case round =>
  obtain ⟨k, hk, rfl, rfl, rfl, HBR⟩ := hrel
  have HBW := hid (HB3.out.trans (HBR.out.mono HB3.out.size))
  by_cases hlt : k < nL + 28
  ·have hlt2 : (k : Int) < (nL : Int) + 28 := by omega
   have his : IntKind.i64.wrap ((k : Int) + 1) = (k : Int) + 1 := by rw [IntKind.wrap_i64]; omega
   have bm := fun a => emod_bounds a q h3
   have bs := bm (Pol.ps (zat l) a k)
   have bp := bm (a ^ k)
   have bl := HLB.out k
   have bx := bm (zat l k * (a ^ k % (q : Int)))
   have HMX := hid (fun W => rmul_any q (zat l k) (a ^ k % (q : Int)) W h3 h4 bl.1 bl.2 (by omega) (by omega))
   have HAD := hid (fun W => radd_any q (Pol.ps (zat l) a k % (q : Int)) (zat l k * (a ^ k % (q : Int)) % (q : Int)) W h3 h4 (by omega) (by omega) (by omega) (by omega))
   have HMP := hid (fun W => rmul_any q (a ^ k % (q : Int)) a W h3 h4 (by omega) (by omega) HQA.out.2.2.1 HQA.out.2.2.2)
   rw [ps_next] at HAD
   rw [pw_next] at HMP
   obtain ⟨sk, hsk⟩ := exE (Pol.ps (zat l) a k % (q : Int))
   obtain ⟨sn, hsn⟩ := exE (Pol.ps (zat l) a (k + 1) % (q : Int))
   obtain ⟨pk, hpk⟩ := exE (a ^ k % (q : Int))
   obtain ⟨pn, hpn⟩ := exE (a ^ (k + 1) % (q : Int))
   obtain ⟨xk, hxk⟩ := exE (zat l k * (a ^ k % (q : Int)) % (q : Int))
   rw [<- hxk] at HMX HAD
   rw [<- hsk, <- hsn] at HAD
   rw [<- hpk] at HMX
   rw [<- hpk, <- hpn] at HMP
   rw [<- hsk, <- hpk]
   have HSN := hid hsn
   have HPN := hid hpn
   clear hsk hsn hpk hpn hxk bm bs bp bl bx
   by_cases c1 : k < nL + 26
   ·have HDV := hid (HDL.out k c1)
    have HMXY := HMX
    have q26 : ((k : Int) == (nL : Int) + 26) = false := by rw [beq_eq_false_iff_ne]; omega
    have q27 : ((k : Int) == (nL : Int) + 27) = false := by rw [beq_eq_false_iff_ne]; omega
    have HRU := hid (fun W (hW : Below W3.heap.size W3 W) => HRUL.out W hW k c1)
    clear HMXY
    generalize zat l k = ck at *
    generalize Ru k = rk at *
    go_wp2_with fail
    refine (HOF.out k wr).mono ?_
    rintro e w' ⟨rfl, hw'⟩
    have hw'' := hw'.symm
    subst hw''
    clear hw'
    generalize kd k = kk at *
    go_wp2_with fail
    refine (HRU.out wr HBR.out).mono ?_
    rintro e w5 ⟨rfl, hb5⟩
    have HB5 := hid (HBW.out.trans (hb5.mono HBW.out.size))
    have HW5 := hid (HBR.out.trans (hb5.mono HBR.out.size))
    clear hb5
    go_wp2_with fail
    refine (HDV.out w5 HB5.out).mono ?_
    rintro e w7 ⟨rfl, hb7⟩
    have HB7 := hid (HB5.out.trans (hb7.mono HB5.out.size))
    have HW7 := hid (HW5.out.trans (hb7.mono HW5.out.size))
    obtain ⟨y0, _⟩ := HCS.out w7 HB7.out
    clear hb7 HB5 HW5
    go_wp2_with fail
    refine (HMX.out w7).mono ?_
    rintro e w' ⟨rfl, hw'⟩
    have hw'' := hw'.symm
    subst hw''
    clear hw'
    go_wp2_with fail
    refine (HAD.out w7).mono ?_
    rintro e w' ⟨rfl, hw'⟩
    have hw'' := hw'.symm
    subst hw''
    clear hw'
    go_wp2_with fail
    refine wp_region_held_drew (S := fun W => W.cell? ⟨t, 0, none⟩ = some (.int .i64 q) /\ W.cell? ⟨t, 1, none⟩ = some (.int .i64 size) /\ W.cell? ⟨t, 2, none⟩ = some (.slice aL nL cL) /\ W.cell? ⟨t, 3, none⟩ = some (.int .i64 out) /\ W.cell? ⟨t, 9, none⟩ = some (.int .i64 q) /\ W.cell? ⟨t, 10, none⟩ = some (.int .i64 (N : Int)) /\ W.cell? ⟨t, 11, none⟩ = some (.int .i64 (g : Int)) /\ W.cell? ⟨t, 12, none⟩ = some (.int .i64 rD) /\ W.cell? ⟨t, 15, none⟩ = some (.int .i64 a) /\ True) (by kernel_rfl) (HCS.out w7.drew HB7.out.drew) (fun hHeld => ?_)
    refine tkU 0 (.pointer (some ⟨t, 0, none⟩)) rfl (fun W hC => by go_simp) hHeld ?_
    simp only [Act.put, aS0, aS1, aS2]
    refine tkU 1 (.pointer (some ⟨t, 0, none⟩)) rfl (fun W hC => by go_simp) hHeld ?_
    simp only [Act.put, aS0, aS1, aS2]
    refine tkU 2 (.pointer (some ⟨t, 0, none⟩)) rfl (fun W hC => by go_simp) hHeld ?_
    simp only [Act.put, aS0, aS1, aS2]
    refine tkU 3 (.int .i64 q) rfl (fun W hC => by (obtain ⟨y0, y1, y2, y3, y4, y5, y6, y7, y8, y9⟩ := hC); go_simp) hHeld ?_
    simp only [Act.put, aS0, aS1, aS2]
    refine tkU 4 (.int .i64 pk) rfl (fun W hC => by go_simp) hHeld ?_
    simp only [Act.put, aS0, aS1, aS2]
    refine tkU 5 (.pointer (some ⟨t, 0, none⟩)) rfl (fun W hC => by go_simp) hHeld ?_
    simp only [Act.put, aS0, aS1, aS2]
    refine tkU 6 (.pointer (some ⟨t, 0, none⟩)) rfl (fun W hC => by go_simp) hHeld ?_
    simp only [Act.put, aS0, aS1, aS2]
    refine tkU 7 (.pointer (some ⟨t, 15, none⟩)) rfl (fun W hC => by go_simp) hHeld ?_
    simp only [Act.put, aS0, aS1, aS2]
    refine tkU 8 (.int .i64 a) rfl (fun W hC => by (obtain ⟨y0, y1, y2, y3, y4, y5, y6, y7, y8, y9⟩ := hC); go_simp) hHeld ?_
    simp only [Act.put, aS0, aS1, aS2]
    refine wpAnyH_ready (rs := [9]) (by kernel_rfl) (by simp) ?_
    refine AllReadyH.consU rfl (fun K' hK' => ?_) AllReadyH.nil
    go_simp
    refine (HMP.out w7.drew).mono ?_
    rintro e w8 ⟨rfl, hw8⟩
    refine hK'.out _ _ (by rw [hw8]; exact HCS.out w7.drew HB7.out.drew) (fun hHeld => ?_)
    clear hK' K'
    refine tkU 10 (.int .i64 pn) rfl (fun W hC => by go_simp) hHeld ?_
    simp only [Act.put, aS0, aS1, aS2]
    refine wpAnyH_done (by kernel_rfl) ?_ _
    clear hHeld
    have HB8 : Hid (Below W3.heap.size W3 w8) := by unfold Hid; rw [hw8]; exact HW7.out.drew
    clear hw8 HB7 HW7 y0
    go_wp2_with fail
    exact ⟨⟨k + 1, by omega, by simp, by rw [HSN.out], by rw [HPN.out], HB8⟩, by simp only [intOf, Int.toNat_natCast]; omega⟩
   ·by_cases c2 : k = nL + 26
    ·have HDV := HD6
     have q26 : ((k : Int) == (nL : Int) + 26) = true := by rw [beq_iff_eq]; omega
     rw [<- c2] at HDV
     clear c1 c2
     generalize zat l k = ck at *
     go_wp2_with fail
     refine (HOF.out k wr).mono ?_
     rintro e w' ⟨rfl, hw'⟩
     have hw'' := hw'.symm
     subst hw''
     clear hw'
     generalize kd k = kk at *
     go_wp2_with fail
     refine (HPR.out wr HBW.out).mono ?_
     rintro e w5 ⟨rfl, hb5⟩
     have HB5 := hid (HBW.out.trans (hb5.mono HBW.out.size))
     have HW5 := hid (HBR.out.trans (hb5.mono HBR.out.size))
     clear hb5
     go_wp2_with fail
     refine (HDV.out w5 HB5.out).mono ?_
     rintro e w7 ⟨rfl, hb7⟩
     have HB7 := hid (HB5.out.trans (hb7.mono HB5.out.size))
     have HW7 := hid (HW5.out.trans (hb7.mono HW5.out.size))
     obtain ⟨y0, _⟩ := HCS.out w7 HB7.out
     clear hb7 HB5 HW5
     go_wp2_with fail
     refine (HMX.out w7).mono ?_
     rintro e w' ⟨rfl, hw'⟩
     have hw'' := hw'.symm
     subst hw''
     clear hw'
     go_wp2_with fail
     refine (HAD.out w7).mono ?_
     rintro e w' ⟨rfl, hw'⟩
     have hw'' := hw'.symm
     subst hw''
     clear hw'
     go_wp2_with fail
     refine wp_region_held_drew (S := fun W => W.cell? ⟨t, 0, none⟩ = some (.int .i64 q) /\ W.cell? ⟨t, 1, none⟩ = some (.int .i64 size) /\ W.cell? ⟨t, 2, none⟩ = some (.slice aL nL cL) /\ W.cell? ⟨t, 3, none⟩ = some (.int .i64 out) /\ W.cell? ⟨t, 9, none⟩ = some (.int .i64 q) /\ W.cell? ⟨t, 10, none⟩ = some (.int .i64 (N : Int)) /\ W.cell? ⟨t, 11, none⟩ = some (.int .i64 (g : Int)) /\ W.cell? ⟨t, 12, none⟩ = some (.int .i64 rD) /\ W.cell? ⟨t, 15, none⟩ = some (.int .i64 a) /\ True) (by kernel_rfl) (HCS.out w7.drew HB7.out.drew) (fun hHeld => ?_)
     refine tkU 0 (.pointer (some ⟨t, 0, none⟩)) rfl (fun W hC => by go_simp) hHeld ?_
     simp only [Act.put, aS0, aS1, aS2]
     refine tkU 1 (.pointer (some ⟨t, 0, none⟩)) rfl (fun W hC => by go_simp) hHeld ?_
     simp only [Act.put, aS0, aS1, aS2]
     refine tkU 2 (.pointer (some ⟨t, 0, none⟩)) rfl (fun W hC => by go_simp) hHeld ?_
     simp only [Act.put, aS0, aS1, aS2]
     refine tkU 3 (.int .i64 q) rfl (fun W hC => by (obtain ⟨y0, y1, y2, y3, y4, y5, y6, y7, y8, y9⟩ := hC); go_simp) hHeld ?_
     simp only [Act.put, aS0, aS1, aS2]
     refine tkU 4 (.int .i64 pk) rfl (fun W hC => by go_simp) hHeld ?_
     simp only [Act.put, aS0, aS1, aS2]
     refine tkU 5 (.pointer (some ⟨t, 0, none⟩)) rfl (fun W hC => by go_simp) hHeld ?_
     simp only [Act.put, aS0, aS1, aS2]
     refine tkU 6 (.pointer (some ⟨t, 0, none⟩)) rfl (fun W hC => by go_simp) hHeld ?_
     simp only [Act.put, aS0, aS1, aS2]
     refine tkU 7 (.pointer (some ⟨t, 15, none⟩)) rfl (fun W hC => by go_simp) hHeld ?_
     simp only [Act.put, aS0, aS1, aS2]
     refine tkU 8 (.int .i64 a) rfl (fun W hC => by (obtain ⟨y0, y1, y2, y3, y4, y5, y6, y7, y8, y9⟩ := hC); go_simp) hHeld ?_
     simp only [Act.put, aS0, aS1, aS2]
     refine wpAnyH_ready (rs := [9]) (by kernel_rfl) (by simp) ?_
     refine AllReadyH.consU rfl (fun K' hK' => ?_) AllReadyH.nil
     go_simp
     refine (HMP.out w7.drew).mono ?_
     rintro e w8 ⟨rfl, hw8⟩
     refine hK'.out _ _ (by rw [hw8]; exact HCS.out w7.drew HB7.out.drew) (fun hHeld => ?_)
     clear hK' K'
     refine tkU 10 (.int .i64 pn) rfl (fun W hC => by go_simp) hHeld ?_
     simp only [Act.put, aS0, aS1, aS2]
     refine wpAnyH_done (by kernel_rfl) ?_ _
     clear hHeld
     have HB8 : Hid (Below W3.heap.size W3 w8) := by unfold Hid; rw [hw8]; exact HW7.out.drew
     clear hw8 HB7 HW7 y0
     go_wp2_with fail
     exact ⟨⟨k + 1, by omega, by simp, by rw [HSN.out], by rw [HPN.out], HB8⟩, by simp only [intOf, Int.toNat_natCast]; omega⟩
    ·have c5 : k = nL + 27 := by omega
     have HDV := HD7
     have q26 : ((k : Int) == (nL : Int) + 26) = false := by rw [beq_eq_false_iff_ne]; omega
     have q27 : ((k : Int) == (nL : Int) + 27) = true := by rw [beq_iff_eq]; omega
     rw [<- c5] at HDV
     clear c1 c2 c5
     generalize zat l k = ck at *
     obtain ⟨y0, _⟩ := HCS.out wr HBW.out
     go_wp2_with fail
     refine (HOF.out k wr).mono ?_
     rintro e w' ⟨rfl, hw'⟩
     have hw'' := hw'.symm
     subst hw''
     clear hw'
     generalize kd k = kk at *
     go_wp2_with fail
     refine (HSZ.out wr).mono ?_
     rintro e w5 ⟨rfl, hw5⟩
     have HB5 : Hid (Below w.heap.size w w5) := by unfold Hid; rw [hw5]; exact HBW.out
     have HW5 : Hid (Below W3.heap.size W3 w5) := by unfold Hid; rw [hw5]; exact HBR.out
     clear hw5 y0
     go_wp2_with fail
     refine (HDV.out w5 HB5.out).mono ?_
     rintro e w7 ⟨rfl, hb7⟩
     have HB7 := hid (HB5.out.trans (hb7.mono HB5.out.size))
     have HW7 := hid (HW5.out.trans (hb7.mono HW5.out.size))
     obtain ⟨y0, _⟩ := HCS.out w7 HB7.out
     clear hb7 HB5 HW5
     go_wp2_with fail
     refine (HMX.out w7).mono ?_
     rintro e w' ⟨rfl, hw'⟩
     have hw'' := hw'.symm
     subst hw''
     clear hw'
     go_wp2_with fail
     refine (HAD.out w7).mono ?_
     rintro e w' ⟨rfl, hw'⟩
     have hw'' := hw'.symm
     subst hw''
     clear hw'
     go_wp2_with fail
     refine wp_region_held_drew (S := fun W => W.cell? ⟨t, 0, none⟩ = some (.int .i64 q) /\ W.cell? ⟨t, 1, none⟩ = some (.int .i64 size) /\ W.cell? ⟨t, 2, none⟩ = some (.slice aL nL cL) /\ W.cell? ⟨t, 3, none⟩ = some (.int .i64 out) /\ W.cell? ⟨t, 9, none⟩ = some (.int .i64 q) /\ W.cell? ⟨t, 10, none⟩ = some (.int .i64 (N : Int)) /\ W.cell? ⟨t, 11, none⟩ = some (.int .i64 (g : Int)) /\ W.cell? ⟨t, 12, none⟩ = some (.int .i64 rD) /\ W.cell? ⟨t, 15, none⟩ = some (.int .i64 a) /\ True) (by kernel_rfl) (HCS.out w7.drew HB7.out.drew) (fun hHeld => ?_)
     refine tkU 0 (.pointer (some ⟨t, 0, none⟩)) rfl (fun W hC => by go_simp) hHeld ?_
     simp only [Act.put, aS0, aS1, aS2]
     refine tkU 1 (.pointer (some ⟨t, 0, none⟩)) rfl (fun W hC => by go_simp) hHeld ?_
     simp only [Act.put, aS0, aS1, aS2]
     refine tkU 2 (.pointer (some ⟨t, 0, none⟩)) rfl (fun W hC => by go_simp) hHeld ?_
     simp only [Act.put, aS0, aS1, aS2]
     refine tkU 3 (.int .i64 q) rfl (fun W hC => by (obtain ⟨y0, y1, y2, y3, y4, y5, y6, y7, y8, y9⟩ := hC); go_simp) hHeld ?_
     simp only [Act.put, aS0, aS1, aS2]
     refine tkU 4 (.int .i64 pk) rfl (fun W hC => by go_simp) hHeld ?_
     simp only [Act.put, aS0, aS1, aS2]
     refine tkU 5 (.pointer (some ⟨t, 0, none⟩)) rfl (fun W hC => by go_simp) hHeld ?_
     simp only [Act.put, aS0, aS1, aS2]
     refine tkU 6 (.pointer (some ⟨t, 0, none⟩)) rfl (fun W hC => by go_simp) hHeld ?_
     simp only [Act.put, aS0, aS1, aS2]
     refine tkU 7 (.pointer (some ⟨t, 15, none⟩)) rfl (fun W hC => by go_simp) hHeld ?_
     simp only [Act.put, aS0, aS1, aS2]
     refine tkU 8 (.int .i64 a) rfl (fun W hC => by (obtain ⟨y0, y1, y2, y3, y4, y5, y6, y7, y8, y9⟩ := hC); go_simp) hHeld ?_
     simp only [Act.put, aS0, aS1, aS2]
     refine wpAnyH_ready (rs := [9]) (by kernel_rfl) (by simp) ?_
     refine AllReadyH.consU rfl (fun K' hK' => ?_) AllReadyH.nil
     go_simp
     refine (HMP.out w7.drew).mono ?_
     rintro e w8 ⟨rfl, hw8⟩
     refine hK'.out _ _ (by rw [hw8]; exact HCS.out w7.drew HB7.out.drew) (fun hHeld => ?_)
     clear hK' K'
     refine tkU 10 (.int .i64 pn) rfl (fun W hC => by go_simp) hHeld ?_
     simp only [Act.put, aS0, aS1, aS2]
     refine wpAnyH_done (by kernel_rfl) ?_ _
     clear hHeld
     have HB8 : Hid (Below W3.heap.size W3 w8) := by unfold Hid; rw [hw8]; exact HW7.out.drew
     clear hw8 HB7 HW7 y0
     go_wp2_with fail
     exact ⟨⟨k + 1, by omega, by simp, by rw [HSN.out], by rw [HPN.out], HB8⟩, by simp only [intOf, Int.toNat_natCast]; omega⟩
  ·have hkE : k = nL + 28 := by omega
   have hlt2 : ¬ (k : Int) < (nL : Int) + 28 := by omega
   rw [<- hkE] at HEV
   rw [<- HEV.out]
   clear hkE
   go_wp2_with fail
   go_ret
   exact ⟨rfl, HBW.out⟩
theorem rcompose_any (t q n g rH rD cL G Gz Nz : Nat) (size out x y a gg : Int) (aL : Option Addr) (L : List InsZ) (rows : List (List Int)) (z : List Int) (F : Nat -> Value) (w : World) (hpr : Num.Prime q) (h3 : 3 <= q) (h4 : q <= 2147483647) (hT : RTA w t q n g rH rD size out aL L.length cL x y a gg) (hl : L.length <= 64) (hl1 : 1 <= L.length) (hn0 : 0 < n) (hn : n <= 512) (hrH : rH < q) (hrD : rD < q) (hg : g < q)
  (hIB : InsB L) (hsz : I64 size) (hout : I64 out) (hx : I64 x) (hy : I64 y) (ha : I64 a) (hI : LstI w.heap.size w aL cL L) (hW : LstR w.heap.size w (some ⟨G, 0, none⟩) (8 * n) (spT (cvz q n rH rD g rows) (8 * n) (20 + L.length))) (hZ : w.rowIs Gz 3 Nz F) (hNz : 8 * n <= Nz) (hF : ∀ i, i < 8 * n -> F i = .int .i64 (cvz q n rH rD g (onez z) i 0)) :
  Calls Tryz.prog 12 #[.pointer (some ⟨t, 0, none⟩), .slice (some ⟨G, 0, none⟩) (8 * n) (8 * n), .slice (some ⟨Gz, 0, none⟩) (8 * n) Nz] w fun e w' => ∃ v, e = .returned v /\ w'.ownsRow w.heap.size 3 1 v (ls (cpv q n g rH rD L size out rows z x y a) (8 * n)).length ((ls (cpv q n g rH rD L size out rows z x y a) (8 * n)).map (Value.int .i64)) /\ Below w.heap.size w w' := by
 obtain ⟨i0, hi, hz0, hz1, hz2⟩ := info_parts Tryz.infoInt
 obtain ⟨N8, hN8⟩ := exE (8 * n)
 have hcb : ∀ (rs : List (List Int)) (i j : Nat), 0 <= cvz q n rH rD g rs i j /\ cvz q n rH rD g rs i j < (q : Int) := fun rs i j => by unfold cvz; exact evz_bounds q _ _ h3
 have hfr : ∀ i j, I64 (zat (ls (cvz q n rH rD g rows i) (20 + L.length)) j) := fun i j => by
  have hz := zat_memR (P := fun x => 0 <= x /\ x < (q : Int)) (l := ls (cvz q n rH rD g rows i) (20 + L.length)) (by omega) (fun x hx => by
   obtain ⟨j', _, rfl⟩ := List.mem_map.1 hx
   exact hcb rows i j') j
  unfold I64; omega
 have hzb : ∀ i, I64 (cvz q n rH rD g (onez z) i 0) := fun i => by have := hcb (onez z) i 0; unfold I64; omega
 obtain ⟨cc, hcc, hcs, hcF⟩ := hZ
 have hGz : Gz < w.heap.size := (Array.getElem?_eq_some_iff.1 hcc).1
 obtain ⟨c0, hc0⟩ : ∃ c0 : Nat -> Int, c0 = fun i => cpv q n g rH rD L size out rows z x y a i := ⟨_, rfl⟩
 obtain ⟨z0, hz0'⟩ : ∃ z0 : Nat -> Int, z0 = fun i => cvz q n rH rD g (onez z) i 0 := ⟨_, rfl⟩
 obtain ⟨m, hm⟩ := exE (20 + L.length)
 have HRC : Hid (∀ i k, i < N8 -> k = (i + 8) % N8 -> ∃ ai ci ak ck, (∀ W, Below w.heap.size w W -> W.cell? ⟨G, i, none⟩ = some (.slice ai m ci) /\ W.cell? ⟨G, k, none⟩ = some (.slice ak m ck) /\ W.cell? ⟨Gz, i, none⟩ = some (.int .i64 (z0 i)) /\ W.cell? ⟨Gz, k, none⟩ = some (.int .i64 (z0 k))) /\
   ∀ W, Below w.heap.size w W -> Calls Tryz.prog 31 #[.pointer (some ⟨t, 0, none⟩), .int .i64 (i : Int), .slice ai m ci, .slice ak m ck, .int .i64 (z0 i), .int .i64 (z0 k)] W fun e w' => e = .returned (.int .i64 (c0 i)) /\ Below W.heap.size W w') := fun i k hi' hk => by
  rw [hN8] at hi' hk
  have hkl : k < 8 * n := by rw [hk]; exact Nat.mod_lt _ (by omega)
  obtain ⟨b, o, ai, ci, e1, hb, hcI, hlI⟩ := hW.row i (by rw [spT_len]; exact hi')
  cases e1
  obtain ⟨b, o, ak, ck, e1, hb', hcK, hlK⟩ := hW.row k (by rw [spT_len]; exact hkl)
  cases e1
  rw [spT_rat _ hi'] at hcI hlI
  rw [spT_rat _ hkl] at hcK hlK
  rw [ls_len, <- hm, Nat.zero_add] at hcI hcK
  refine ⟨ai, ci, ak, ck, fun W hW' => ⟨(hW'.cell (p := ⟨G, i, none⟩) hb).trans hcI, (hW'.cell (p := ⟨G, k, none⟩) hb).trans hcK, (hW'.cell (p := ⟨Gz, i, none⟩) hGz).trans ?_, (hW'.cell (p := ⟨Gz, k, none⟩) hGz).trans ?_⟩, fun W hW' => ?_⟩
  ·have h1 := hcF i (by omega)
   rw [hF i hi'] at h1
   rw [hz0']
   simp [World.cell?, hcc, h1]
  ·have h1 := hcF k (by omega)
   rw [hF k hkl] at h1
   rw [hz0']
   simp [World.cell?, hcc, h1]
  ·have h9 := rcomposed_any t q n g rH rD cL ci ck i size out x y a gg (cvz q n rH rD g (onez z) i 0) (cvz q n rH rD g (onez z) k 0) aL ai ak L (ls (cvz q n rH rD g rows i) (20 + L.length)) (ls (cvz q n rH rD g rows k) (20 + L.length)) W hpr ⟨h3, h4, ls_len _ _, ls_len _ _, hfr i, hfr k, hIB, by omega, hl1, hsz, hout⟩ (hT.below hW' hT.lt) hl hn0 hn hrH hrD hg hi' hx hy ha (hzb i) (hzb k) ((hI.below hW').mono hW'.size) ((hlI.below hW').mono hW'.size) ((hlK.below hW').mono hW'.size)
   rw [ls_len, ls_len, <- hm] at h9
   rw [hz0', hc0]
   dsimp only
   unfold cpv
   rw [<- hk, <- hm]
   exact h9
 have HLS : Hid (ls (cpv q n g rH rD L size out rows z x y a) (8 * n) = ls c0 N8) := by unfold Hid; rw [hc0, hN8]
 rw [HLS.out, <- hN8]
 have HTT : Hid (∀ W, Below w.heap.size w W -> W.cell? ⟨t, 10, none⟩ = some (.int .i64 (N8 : Int))) := fun W hW => by
  have h := hT.below hW hT.lt
  rw [hN8]; exact h.cell 10 rfl
 have hN8b : N8 <= 4096 := by omega
 have hN80 : 0 < N8 := by omega
 have hNz' : N8 <= Nz := by omega
 clear HLS hN8 hcb hfr hzb hcc hcs hcF hGz hc0 hz0' hm hW hF hI hT hIB hsz hout hx hy ha hl hl1 hrH hrD hg hNz hpr
 go_enter Tryz.func12, Tryz.ntmps12
 go_wp2_with fail
 go_loopw [7, 8, 9, 10] (fun lv iv _ _ wr => ∃ i : Nat, i <= N8 /\ iv = .int .i64 i /\ Hid (wr.ownsRow w.heap.size 3 1 lv (ls c0 i).length ((ls c0 i).map (Value.int .i64))) /\ Hid (Below w.heap.size w wr)) (fun _ iv _ _ _ => N8 - (intOf iv).toNat)
 case atStart => exact ⟨0, Nat.zero_le _, rfl, World.ownsRow_nil _ _ _ _, Below.refl _ _⟩
 case round =>
  obtain ⟨i, hiN, rfl, HO, HB⟩ := hrel
  have t10 := HTT.out wr HB.out
  by_cases hlt : i < N8
  ·have hlt2 : (i : Int) < (N8 : Int) := by omega
   have iN0 : ¬ (N8 : Int) = 0 := by omega
   have his : IntKind.i64.wrap ((i : Int) + 1) = (i : Int) + 1 := by rw [IntKind.wrap_i64]; omega
   have his8 : IntKind.i64.wrap ((i : Int) + 8) = (i : Int) + 8 := by rw [IntKind.wrap_i64]; omega
   obtain ⟨k, hk⟩ := exE ((i + 8) % N8)
   have hkl : k < N8 := by rw [hk]; exact Nat.mod_lt _ hN80
   have hkl2 : (k : Int) < (N8 : Int) := by omega
   have itm : Int.tmod ((i : Int) + 8) (N8 : Int) = (k : Int) := by rw [Int.tmod_eq_emod_of_nonneg (by omega), hk, show (i : Int) + 8 = ((i + 8 : Nat) : Int) from by omega]; exact (Int.natCast_emod _ _).symm
   have ikw : IntKind.i64.wrap (k : Int) = (k : Int) := by rw [IntKind.wrap_i64]; omega
   obtain ⟨ai, ci, ak, ck, hcells, hcall⟩ := HRC.out i k hlt hk
   have HCE := hid hcells
   have HCA := hid hcall
   have HLL : Hid ((ls c0 i).length <= 4096) := by unfold Hid; rw [ls_len]; omega
   have HLS : Hid (ls c0 (i + 1) = ls c0 i ++ [c0 i]) := ls_succ c0 i
   generalize c0 i = ci0 at *
   generalize z0 i = zi at *
   generalize z0 k = zk at *
   clear hcells hcall hk
   go_wp2_with fail
   refine wp_region_held_drew (S := fun W => W.cell? ⟨G, i, none⟩ = some (.slice ai m ci) /\ W.cell? ⟨G, k, none⟩ = some (.slice ak m ck) /\ W.cell? ⟨Gz, i, none⟩ = some (.int .i64 zi) /\ W.cell? ⟨Gz, k, none⟩ = some (.int .i64 zk)) (by kernel_rfl) (HCE.out wr.drew HB.out.drew) (fun hHeld => ?_)
   refine tkU 0 (.pointer (some ⟨t, 0, none⟩)) rfl (fun W hC => by go_simp) hHeld ?_
   simp only [Act.put, aS0, aS1, aS2]
   refine tkU 1 (.int .i64 (i : Int)) rfl (fun W hC => by go_simp) hHeld ?_
   simp only [Act.put, aS0, aS1, aS2]
   refine tkU 2 (.slice (some ⟨G, 0, none⟩) N8 N8) rfl (fun W hC => by go_simp) hHeld ?_
   simp only [Act.put, aS0, aS1, aS2]
   refine tkU 3 (.int .i64 (i : Int)) rfl (fun W hC => by go_simp) hHeld ?_
   simp only [Act.put, aS0, aS1, aS2]
   refine tkU 4 (.pointer (some ⟨G, i, none⟩)) rfl (fun W hC => by go_simp) hHeld ?_
   simp only [Act.put, aS0, aS1, aS2]
   refine tkU 5 (.slice ai m ci) rfl (fun W hC => by (obtain ⟨y0, y1, y2, y3⟩ := hC); go_simp) hHeld ?_
   simp only [Act.put, aS0, aS1, aS2]
   refine tkU 6 (.slice (some ⟨G, 0, none⟩) N8 N8) rfl (fun W hC => by go_simp) hHeld ?_
   simp only [Act.put, aS0, aS1, aS2]
   refine tkU 7 (.int .i64 (k : Int)) rfl (fun W hC => by go_simp) hHeld ?_
   simp only [Act.put, aS0, aS1, aS2]
   refine tkU 8 (.pointer (some ⟨G, k, none⟩)) rfl (fun W hC => by go_simp) hHeld ?_
   simp only [Act.put, aS0, aS1, aS2]
   refine tkU 9 (.slice ak m ck) rfl (fun W hC => by (obtain ⟨y0, y1, y2, y3⟩ := hC); go_simp) hHeld ?_
   simp only [Act.put, aS0, aS1, aS2]
   refine tkU 10 (.slice (some ⟨Gz, 0, none⟩) N8 Nz) rfl (fun W hC => by go_simp) hHeld ?_
   simp only [Act.put, aS0, aS1, aS2]
   refine tkU 11 (.int .i64 (i : Int)) rfl (fun W hC => by go_simp) hHeld ?_
   simp only [Act.put, aS0, aS1, aS2]
   refine tkU 12 (.pointer (some ⟨Gz, i, none⟩)) rfl (fun W hC => by go_simp) hHeld ?_
   simp only [Act.put, aS0, aS1, aS2]
   refine tkU 13 (.int .i64 zi) rfl (fun W hC => by (obtain ⟨y0, y1, y2, y3⟩ := hC); go_simp) hHeld ?_
   simp only [Act.put, aS0, aS1, aS2]
   refine tkU 14 (.slice (some ⟨Gz, 0, none⟩) N8 Nz) rfl (fun W hC => by go_simp) hHeld ?_
   simp only [Act.put, aS0, aS1, aS2]
   refine tkU 15 (.int .i64 (k : Int)) rfl (fun W hC => by go_simp) hHeld ?_
   simp only [Act.put, aS0, aS1, aS2]
   refine tkU 16 (.pointer (some ⟨Gz, k, none⟩)) rfl (fun W hC => by go_simp) hHeld ?_
   simp only [Act.put, aS0, aS1, aS2]
   refine tkU 17 (.int .i64 zk) rfl (fun W hC => by (obtain ⟨y0, y1, y2, y3⟩ := hC); go_simp) hHeld ?_
   simp only [Act.put, aS0, aS1, aS2]
   refine wpAnyH_ready (rs := [18]) (by kernel_rfl) (by simp) ?_
   refine AllReadyH.consU rfl (fun K' hK' => ?_) AllReadyH.nil
   go_simp
   refine (HCA.out wr.drew HB.out.drew).mono ?_
   rintro e w2 ⟨rfl, hb2⟩
   have hB2 : Below w.heap.size w w2 := HB.out.drew.trans (hb2.mono HB.out.size)
   refine hK'.out _ _ (HCE.out w2 hB2) (fun hHeld => ?_)
   clear hK' K'
   refine tkU 19 (.int .i64 ci0) rfl (fun W hC => by go_simp) hHeld ?_
   simp only [Act.put, aS0, aS1, aS2]
   refine wpAnyH_done (by kernel_rfl) ?_ _
   clear hHeld
   have hown' : w2.ownsRow w.heap.size 3 1 _ (ls c0 i).length ((ls c0 i).map (Value.int .i64)) := HO.out.kept (gb_of_below (show Below wr.heap.size wr w2 from ((Below.refl _ _).drew).trans hb2)) (by
    cases (Value.ownBlock _) with
    | none => exact .inl rfl
    | some k => exact .inr (by simp))
   have HB2 := hid hB2
   have hsz' := HB2.out.size
   clear hb2 hB2 HCA HCE
   go_wp2_with (at_builtin; refine wpList_append_own _ rfl _ _ 26 rfl w.heap.size 3 i0 (.int .i64 0) 1 8 Tryz.underlying26 hi hz0 hz1 hz2 rfl (by decide) _ _ _ rfl (hown'.alloc _) ⟨w2.heap.size, 0, none⟩ 1 1 [.int .i64 ci0] rfl rfl ?c1 ?c2 ?c3 ?c4 ?c5 ?_)
   case c1 =>
    intro j u hj
    match j, hj with
    | 0, hj => simp at hj; subst hj; simp [Addr.add]
   case c2 => intro u hu; simp at hu; subst hu; rfl
   case c3 => have := HLL.out; unfold maxLen; omega
   case c4 => have := HLL.out; omega
   case c5 => simp; omega
   intro v' w5 hown2 hgrow _
   have hown3 := owns_succ hown2
   have HB5 : Hid (Below w.heap.size w w5) := (HB2.out.alloc hsz' _).grown hgrow (by simp; omega) (fun k hk => (hown'.lt k hk).1)
   have HO5 : Hid (w5.ownsRow w.heap.size 3 1 v' (ls c0 (i + 1)).length ((ls c0 (i + 1)).map (Value.int .i64))) := by unfold Hid; rw [HLS.out]; exact hown3
   clear hown2 hown3 hgrow hown'
   go_wp2_with fail
   exact ⟨⟨i + 1, by omega, by simp, HO5, HB5⟩, by simp only [intOf, Int.toNat_natCast]; omega⟩
  ·obtain rfl : i = N8 := by omega
   have hlt2 : ¬ (i : Int) < (i : Int) := by omega
   go_wp2_with fail
   go_ret
   exact ⟨_, rfl, HO.out, HB.out⟩
end Go.Proofs.YtjlngcmkgkiplaaGreatDoor
