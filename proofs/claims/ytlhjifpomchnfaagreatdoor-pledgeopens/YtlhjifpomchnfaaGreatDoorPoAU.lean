
import Derived.Test.YtlhjifpomchnfaaGreatDoorPoAP
import Derived.Test.YtlhjifpomchnfaaGreatDoorPoAI
import Derived.Test.YtlhjifpomchnfaaGreatDoorPoAG
import Derived.Test.YtlhjifpomchnfaaGreatDoorPoAS
import Derived.Test.YtlhjifpomchnfaaGreatDoorPoAT
import Derived.Test.YtlhjifpomchnfaaGreatDoorPoAH
set_option maxRecDepth 1000000
set_option maxHeartbeats 8000000
namespace Go.Proofs.YtlhjifpomchnfaaGreatDoor
open Go.RowKit Go.Sort
theorem pg_dig {q : Nat} (h3 : 3 <= q) (h4 : q <= 2147483647) (n : Nat) {D : List Int} (h : Dig D) : ∀ k, Dig (pld q n k D)
 | 0 => h
 | _ + 1 => dig_digl h3 h4 _ _
theorem pg_owns {w : World} {base g n : Nat} {f : Nat -> Int} {zs : List Int} (h : ArrI w g 3 n f) (hb : base <= g) (hn : n <= maxLen) (hl : zs.length = n) (hz : ∀ j, j < n -> zat zs j = f j) : w.ownsRow base 3 1 (.slice (some ⟨g, 0, none⟩) zs.length n) zs.length (zs.map (Value.int .i64)) := by
 refine ⟨by simp, .inr ⟨g, n, an n f, rfl, hb, h.heap, by omega, hn, by rw [an_size]; omega, ?_⟩⟩
 refine List.ext_getElem? fun j => ?_
 rcases Nat.lt_or_ge j n with g | g
 ·rw [List.getElem?_take_of_lt (by omega), Array.getElem?_toList, an_at g, List.getElem?_map, List.getElem?_eq_getElem (by omega)]
  have := hz j g
  rw [zat, List.getElem?_eq_getElem (by omega)] at this
  simp at this ⊢
  exact this.symm
 ·rw [List.getElem?_eq_none (by rw [List.length_take]; omega), List.getElem?_eq_none (by simp; omega)]
def pgD (q n : Nat) (root at' D : List Int) : List Int := digl q n (4 :: digl q n (3 :: (digl q n (3 :: (D ++ root)) ++ at')))
def pgE (q n : Nat) (mixed point D : List Int) : List Int := digl q n (3 :: (digl q n (3 :: (D ++ mixed)) ++ point))
def pgP (q n N a : Nat) (D : List Int) : List Int := onc (ls (plz q n N D) a)
theorem drawPower_any (N0 q n c c1 c2 : Nat) (a1 a2 : Option Addr) (root at' D : List Int) (w : World) (h3 : 3 <= q) (h4 : q <= 2147483647) (hP : PCh N0 q n w c D) (hD : Dig D) (hl1 : root.length <= 17592186043904) (hl2 : at'.length <= 17592186043904) (hf1 : Fits root) (hf2 : Fits at')
  (H1 : ∀ W, w.grownBy W (some c) -> Lst W.heap.size W a1 c1 root) (H2 : ∀ W, w.grownBy W (some c) -> Lst W.heap.size W a2 c2 at') :
  Calls Tryz.prog 55 #[.pointer (some ⟨c, 0, none⟩), .slice a1 root.length c1, .slice a2 at'.length c2] w fun e w' => e = .returned (.int .i64 (zat (pgD q n root at' D) 0)) /\ PCh N0 q n w' c (pgD q n root at' D) /\ w.grownBy w' (some c) := by
 have HT1 := hid (ctake_any N0 q n c c1 a1 root D w hP hD hl1 hf1 (H1 w (gb_below (Below.refl _ _))))
 have HT2 := hid (fun (W : World) (h : PCh N0 q n W c (digl q n (3 :: (D ++ root)))) (g : w.grownBy W (some c)) => ctake_any N0 q n c c2 a2 at' (digl q n (3 :: (D ++ root))) W h (dig_digl h3 h4 _ _) hl2 hf2 (H2 W g))
 have HDR := hid (fun (W : World) (h : PCh N0 q n W c (digl q n (3 :: (digl q n (3 :: (D ++ root)) ++ at')))) => cdraw_any N0 q n c _ W h (dig_digl h3 h4 _ _))
 have HPD : Hid (pgD q n root at' D = digl q n (4 :: digl q n (3 :: (digl q n (3 :: (D ++ root)) ++ at')))) := rfl
 rw [HPD.out]
 generalize digl q n (4 :: digl q n (3 :: (digl q n (3 :: (D ++ root)) ++ at'))) = D3 at *
 generalize digl q n (3 :: (digl q n (3 :: (D ++ root)) ++ at')) = D2 at *
 generalize digl q n (3 :: (D ++ root)) = D1 at *
 generalize root.length = n1 at *
 generalize at'.length = n2 at *
 clear hP hD hf1 hf2 H1 H2 HPD
 go_enter Tryz.func55, Tryz.ntmps55
 go_wp2_with fail
 refine HT1.out.mono ?_
 rintro e w1 ⟨rfl, hp1, hg1⟩
 have HX := hid (HT2.out w1 hp1 hg1)
 have HG1 := hid hg1
 clear hp1 hg1 HT1 HT2
 go_wp2_with fail
 refine HX.out.mono ?_
 rintro e w2 ⟨rfl, hp2, hg2⟩
 have HY := hid (HDR.out w2 hp2)
 have HG2 := hid (gb_trans HG1.out hg2)
 clear hp2 hg2 HX HDR HG1
 go_wp2_with fail
 refine HY.out.mono ?_
 rintro e w3 ⟨rfl, hp3, hg3⟩
 have HE : Hid (PCh N0 q n w3 c D3 /\ w.grownBy w3 (some c)) := ⟨hp3, gb_trans HG2.out hg3⟩
 clear hp3 hg3 HY HG2
 go_wp2_with fail
 go_ret
 exact ⟨rfl, HE.out⟩
theorem drawPlaces_any (N0 q n c d b N a c2 c3 : Nat) (a2 a3 : Option Addr) (x y1 y2 x1 x4 x5 x6 : Value) (r s : Int) (mixed point D : List Int) (w : World) (h3 : 3 <= q) (h4 : q <= 2147483647) (hP : PCh N0 q n w c D) (hD : Dig D) (hl1 : mixed.length <= 17592186043904) (hl2 : point.length <= 17592186043904) (hf1 : Fits mixed) (hf2 : Fits point) (hN1 : 1 <= N) (hN2 : N <= 65536) (ha : a <= 1000)
  (hdm : ∀ W, w.grownBy W (some c) -> DomAt W d b (N : Int) r s) (H1 : ∀ W, w.grownBy W (some c) -> Lst W.heap.size W a2 c2 mixed) (H2 : ∀ W, w.grownBy W (some c) -> Lst W.heap.size W a3 c3 point) :
  Calls Tryz.prog 57 #[.agg #[x, .pointer (some ⟨d, 0, none⟩), y1, y2], .pointer (some ⟨c, 0, none⟩), .agg #[x1, .slice a2 mixed.length c2, .slice a3 point.length c3, x4, x5, x6], .int .i64 (a : Int)] w fun e w' => ∃ v, e = .returned v /\ w'.ownsRow w.heap.size 3 1 v (pgP q n N a (pgE q n mixed point D)).length ((pgP q n N a (pgE q n mixed point D)).map (Value.int .i64)) /\ PCh N0 q n w' c (pld q n a (pgE q n mixed point D)) /\ w.grownBy w' (some c) := by
 have hcl := hP.lt
 have hcg := hP.ge
 obtain ⟨W1, hW1⟩ := exE ((w.alloc (.cells #[x, .pointer (some ⟨d, 0, none⟩), y1, y2] 87)).alloc (.cells #[x1, .slice a2 mixed.length c2, .slice a3 point.length c3, x4, x5, x6] 33))
 have hb1 : Below w.heap.size w W1 := by rw [hW1]; exact ((Below.refl _ _).alloc (Nat.le_refl _) _).alloc (by simp) _
 have hz1 : W1.heap.size = w.heap.size + 2 := by rw [hW1]; simp
 have hs1 : W1.heap[w.heap.size]? = some (.cells #[x, .pointer (some ⟨d, 0, none⟩), y1, y2] 87 (0, 0)) := by
  rw [hW1]
  have := heap_alloc_new w (.cells #[x, .pointer (some ⟨d, 0, none⟩), y1, y2] 87)
  have hb := (Below.refl (w.alloc (.cells #[x, .pointer (some ⟨d, 0, none⟩), y1, y2] 87)).heap.size (w.alloc (.cells #[x, .pointer (some ⟨d, 0, none⟩), y1, y2] 87))).alloc (Nat.le_refl _) (.cells #[x1, .slice a2 mixed.length c2, .slice a3 point.length c3, x4, x5, x6] 33)
  exact (hb.block _ (by simp)).trans this
 have hs2 : W1.heap[w.heap.size + 1]? = some (.cells #[x1, .slice a2 mixed.length c2, .slice a3 point.length c3, x4, x5, x6] 33 (0, 0)) := by
  rw [hW1]
  have := heap_alloc_new (w.alloc (.cells #[x, .pointer (some ⟨d, 0, none⟩), y1, y2] 87)) (.cells #[x1, .slice a2 mixed.length c2, .slice a3 point.length c3, x4, x5, x6] 33)
  simpa using this
 obtain ⟨G, hG⟩ := exE (w.heap.size)
 obtain ⟨P, hPP⟩ := exE (w.heap.size + 1)
 rw [<- hG] at hs1
 rw [<- hPP] at hs2
 have hcG : G ≠ c := by omega
 have hcP : P ≠ c := by omega
 have HKP : Hid (∀ W, W1.grownBy W (some c) -> w.grownBy W (some c) /\ W.cell? ⟨G, 1, none⟩ = some (.pointer (some ⟨d, 0, none⟩)) /\ W.cell? ⟨P, 1, none⟩ = some (.slice a2 mixed.length c2) /\ W.cell? ⟨P, 2, none⟩ = some (.slice a3 point.length c3)) := fun W hW => by
  have e1 := (gb_blk hW (Array.getElem?_eq_some_iff.1 hs1).1 hcG).trans hs1
  have e2 := (gb_blk hW (Array.getElem?_eq_some_iff.1 hs2).1 hcP).trans hs2
  exact ⟨gb_trans (gb_below hb1) hW, by simp [World.cell?, e1], by simp [World.cell?, e2], by simp [World.cell?, e2]⟩
 have HT1 := hid (ctake_any N0 q n c c2 a2 mixed D W1 (hP.below hb1) hD hl1 hf1 (H1 W1 (gb_below hb1)))
 have HT2 := hid (fun (W : World) (h : PCh N0 q n W c (digl q n (3 :: (D ++ mixed)))) (g : W1.grownBy W (some c)) => ctake_any N0 q n c c3 a3 point (digl q n (3 :: (D ++ mixed))) W h (dig_digl h3 h4 _ _) hl2 hf2 (H2 W (HKP.out W g).1))
 have HDE : Hid (Dig (pgE q n mixed point D)) := dig_digl h3 h4 _ _
 have HSZ : Hid (∀ W, W1.grownBy W (some c) -> Calls Tryz.prog 106 #[.pointer (some ⟨d, 0, none⟩)] W fun e w' => e = .returned (.int .i64 (N : Int)) /\ w' = W) := fun W hg => size_any d b _ r s W (hdm W (HKP.out W hg).1)
 obtain ⟨E, hE⟩ := exE (pgE q n mixed point D)
 rw [<- hE] at HDE ⊢
 obtain ⟨F, hF⟩ : ∃ F : Nat -> Int, F = plz q n N E := ⟨_, rfl⟩
 have HFF := hid hF
 have HPL : Hid (∀ (W : World) (k : Nat), PCh N0 q n W c (pld q n k E) -> Calls Tryz.prog 115 #[.pointer (some ⟨c, 0, none⟩), .int .i64 (N : Int)] W fun e w' => e = .returned (.int .i64 (F k)) /\ PCh N0 q n w' c (pld q n (k + 1) E) /\ W.grownBy w' (some c)) := fun W k h => by
  have := cplace_any N0 q n c (N : Int) _ W h (pg_dig h3 h4 n HDE.out k) (by omega) (by omega)
  rw [hF]
  exact this
 have HEE : Hid (digl q n (3 :: (digl q n (3 :: (D ++ mixed)) ++ point)) = E) := by unfold Hid; rw [hE]; rfl
 rw [HEE.out] at HT2
 generalize digl q n (3 :: (D ++ mixed)) = D1 at *
 have hmk2 := fun w => run_make_row' (P := Tryz.prog) 22 3 (.int .i64 0) 8 Tryz.underlying22 Tryz.infoInt rfl .i64 .i64 a (by omega) (by omega) w
 obtain ⟨m1, hm1⟩ := exE (mixed.length)
 obtain ⟨m2, hm2⟩ := exE (point.length)
 rw [<- hm1] at HT1 HKP ⊢
 rw [<- hm2] at HT2 HKP ⊢
 simp only [<- hm1, <- hm2] at hW1
 have HW1 := hid hW1
 have HG := hid hG
 have HPP := hid hPP
 have HW := hid hb1
 clear hP hD hf1 hf2 H1 H2 hdm hs1 hs2 hb1 hW1 hG hPP hE hF hm1 hm2 HEE hl1 hl2
 go_enter Tryz.func57, Tryz.ntmps57
 go_wp2_with fail
 rw [<- HPP.out, <- HG.out, <- HW1.out]
 have HGW : Hid (w.heap.size <= W1.heap.size) := HW.out.size
 clear HW1 HG HPP
 refine HT1.out.mono ?_
 rintro e w1 ⟨rfl, hp1, hg1⟩
 have HX := hid (HT2.out w1 hp1 hg1)
 have HG1 := hid hg1
 obtain ⟨_, k1, k2, k3⟩ := HKP.out w1 hg1
 clear hp1 hg1 HT1 HT2
 go_wp2_with fail
 refine HX.out.mono ?_
 rintro e w2 ⟨rfl, hp2, hg2⟩
 have HG2 := hid (gb_trans HG1.out hg2)
 have HP2 := hid hp2
 have hsz2 : W1.heap.size <= w2.heap.size := HG2.out.size
 have hcl2 := hp2.lt
 clear hp2 hg2 HX HG1 k1 k2 k3
 go_wp2_with fail
 go_loopw [10, 23] (fun _ iv wr => ∃ k : Nat, k <= a /\ iv = .int .i64 (k : Int) /\ Hid (ArrI wr w2.heap.size 3 a (fll F (fun _ => 0) k) /\ PCh N0 q n wr c (pld q n k E) /\ W1.grownBy wr (some c))) (fun _ iv _ => a - (intOf iv).toNat)
 case atStart =>
  have hb := (Below.refl w2.heap.size w2).alloc (Nat.le_refl _) (.cells (madeCells #[.int .i64 0] a) 3)
  exact ⟨0, by omega, rfl, by rw [fll_zero]; exact World.rowIs_made _ _ _ _, HP2.out.below hb, gb_trans HG2.out (gb_below hb)⟩
 case round =>
  obtain ⟨k, hk, rfl, hI⟩ := hrel
  by_cases hlt : k < a
  ·have hlt2 : (k : Int) < (a : Int) := by omega
   have hks : IntKind.i64.wrap ((k : Int) + 1) = (k : Int) + 1 := by rw [IntKind.wrap_i64]; omega
   have HX := hid (HSZ.out wr hI.out.2.2)
   have HY := hid (HPL.out wr k hI.out.2.1)
   obtain ⟨_, k1, _, _⟩ := HKP.out wr hI.out.2.2
   go_wp2_with fail
   refine HX.out.mono ?_
   rintro e w3 ⟨rfl, hw3⟩
   have hw3' := hw3.symm
   subst hw3'
   clear hw3
   go_wp2_with fail
   refine HY.out.mono ?_
   rintro e w4 ⟨rfl, hp4, hg4⟩
   have hA2 : ArrI w4 w2.heap.size 3 a (fll F (fun _ => 0) k) := hI.out.1.block (gb_blk hg4 hI.out.1.lt (by omega))
   have HE : Hid (ArrI (w4.setCell ⟨w2.heap.size, k, none⟩ (.int .i64 (F k))) w2.heap.size 3 a (fll F (fun _ => 0) (k + 1)) /\ PCh N0 q n (w4.setCell ⟨w2.heap.size, k, none⟩ (.int .i64 (F k))) c (pld q n (k + 1) E) /\ W1.grownBy (w4.setCell ⟨w2.heap.size, k, none⟩ (.int .i64 (F k))) (some c)) := by
    have hgg := gb_far (gb_trans hI.out.2.2 hg4) hsz2 k (.int .i64 (F k))
    have hoth : ∀ x, x ≠ w2.heap.size -> (w4.setCell ⟨w2.heap.size, k, none⟩ (.int .i64 (F k))).heap[x]? = w4.heap[x]? := fun x hx => Below.heap_setCell _ _ _ _ (by show x ≠ w2.heap.size; exact hx)
    exact ⟨hA2.next, hp4.blocks (hoth _ (by omega)) (fun x hx => hoth x (by omega)), hgg⟩
   have c1 := hA2.cell hlt
   have y1 := hA2.frozen k
   clear hA2 hp4 hg4 hI HX HY k1
   generalize F k = y at *
   generalize fll F (fun _ => 0) k k = y0 at *
   go_wp2_with fail
   go_roundw
   case rel => exact ⟨k + 1, by omega, by go_num, HE.out⟩
   case measure => simp [intOf]; omega
  ·obtain rfl : k = a := by omega
   have hlt2 : ¬ (k : Int) < (k : Int) := by omega
   obtain ⟨zs, hzs⟩ := exE (ls F k)
   have HZL : Hid (zs.length = k) := by unfold Hid; rw [hzs, ls_len]
   have HMD : Hid (Lib.compact (zs.mergeSort fun x y => decide (x <= y)) = pgP q n N k E) := by unfold Hid pgP; rw [<- HFF.out, <- hzs]; exact onc_eq (once_compact _)
   have hA : ArrI wr w2.heap.size 3 k (zat zs) := hI.out.1.congr (fun j hj => by rw [fll_all hj, hzs, ls_at _ _ _ hj])
   have hsz : w2.heap.size < wr.heap.size := hA.lt
   have hrow := pg_owns (base := w2.heap.size) hA (Nat.le_refl _) (by unfold maxLen; omega) HZL.out (fun j _ => rfl)
   have HPC := hid hI.out.2.1
   have HGR := hid hI.out.2.2
   clear hI hzs hA
   rcases hrow.2 with ⟨e1, hz⟩ | ⟨gb, cap', cur, e1, hbase, hgb, r1, r2, r3, r4⟩
   ·cases e1
   ·cases e1
    rw [HZL.out] at r1
    have hH : Holds (Value.int .i64) wr w2.heap.size 0 zs.toArray := holds_of_block_i hgb (by simpa using r4)
    have HS : Hid (Calls Tryz.prog 116 #[.slice (some ⟨w2.heap.size, 0, none⟩) k k] wr fun e w' =>
      e = .returned (.tuple #[]) /\ ∃ n os, w' = grow (putRow (Value.int .i64) (Sort.ahead wr n) w2.heap.size 0 (zs.mergeSort fun x y => decide (x <= y)).toArray) os) := by
     have := Tryz.sort_any w2.heap.size 0 k zs wr hH hsz (by rw [HZL.out]; omega)
     rwa [HZL.out] at this
    have HE : Hid (∀ (n : Nat) (os : Array Obj), (grow (putRow (Value.int .i64) (Sort.ahead wr n) w2.heap.size 0 (zs.mergeSort fun x y => decide (x <= y)).toArray) os).ownsRow w2.heap.size 3 1 (.slice (some ⟨w2.heap.size, 0, none⟩) k k) k ((zs.mergeSort fun x y => decide (x <= y)).map (Value.int .i64)) /\ wr.grownBy (grow (putRow (Value.int .i64) (Sort.ahead wr n) w2.heap.size 0 (zs.mergeSort fun x y => decide (x <= y)).toArray) os) (some w2.heap.size)) := fun n os => by
     have h := ownsRow_sorted_i (n := n) (os := os) (ss := zs) (ts := zs.mergeSort fun x y => decide (x <= y)) (by simp) hbase hgb (by rw [HZL.out]; exact r1) r2 r3
     rw [HZL.out] at h
     exact ⟨h, grownBy_sorted_i _⟩
    have HSL : Hid ((zs.mergeSort fun x y => decide (x <= y)).length = k) := by unfold Hid; rw [List.length_mergeSort, HZL.out]
    clear hrow hbase hgb r1 r2 r3 r4 hH
    go_wp2_with fail
    refine HS.out.mono ?_
    rintro e w5 ⟨rfl, n', os, rfl⟩
    have HE2 := hid (HE.out n' os)
    generalize grow (putRow (Value.int .i64) (Sort.ahead wr n') w2.heap.size 0 (zs.mergeSort fun x y => decide (x <= y)).toArray) os = W2 at *
    generalize (zs.mergeSort fun x y => decide (x <= y)) = ts at *
    have HC : Hid (Calls Tryz.prog 117 #[.slice (some ⟨w2.heap.size, 0, none⟩) k k] W2 fun e w' => ∃ v', e = .returned v' /\ w'.ownsRow w2.heap.size 3 1 v' (Lib.compact ts).length ((Lib.compact ts).map (Value.int .i64)) /\ Below w2.heap.size W2 w') :=
     compact_own w2.heap.size _ ts W2 (by rw [HSL.out]; omega) (by rw [HSL.out]; exact HE2.out.1) (by have := HE2.out.2.size; omega)
    rw [HMD.out] at HC
    clear HS HE HMD HSL
    go_wp2_with fail
    refine HC.out.mono ?_
    rintro e w6 ⟨v', rfl, hv, hb6⟩
    have HV := hid (hv.mono (show w.heap.size <= w2.heap.size by have := HGW.out; omega))
    have hblk : ∀ x, x < w2.heap.size -> w6.heap[x]? = wr.heap[x]? := fun x hx => (hb6.block x hx).trans (HE2.out.2.block x (by omega) (by intro e; injection e with e; omega))
    have hs6 : wr.heap.size <= w6.heap.size := Nat.le_trans HE2.out.2.size hb6.size
    have HP6 : Hid (PCh N0 q n w6 c (pld q n k E)) := HPC.out.blocks (hblk c hcl2) (fun x hx => hblk x (by have := hcg; omega))
    have HG6 : Hid (w.grownBy w6 (some c)) := gb_trans (gb_below HW.out) ⟨(hb6.os.trans HE2.out.2.os).trans HGR.out.os, (hb6.tape.trans HE2.out.2.tape).trans HGR.out.tape, (hb6.output.trans HE2.out.2.output).trans HGR.out.output, Nat.le_trans HGR.out.size hs6, fun x hx hne => (hblk x (by omega)).trans (HGR.out.block x hx hne)⟩
    clear hv hb6 HC HE2 hblk hs6
    go_wp2_with fail
    go_ret
    exact ⟨v', rfl, HV.out, HP6.out, HG6.out⟩
open Go.RowKit
theorem eq_of_zat {x y : List Int} (hl : x.length = y.length) (h : ∀ j, j < x.length -> zat x j = zat y j) : x = y := by
 apply List.ext_getElem hl
 intro i h1 h2
 have := h i h1
 simpa [zat, h1, h2] using this
theorem equal_any (c1 c2 : Nat) (a1 a2 : Option Addr) (x y : List Int) (w : World) (hx : x.length <= 281474976710656) (h1 : RowB w.heap.size w a1 x) (h2 : RowB w.heap.size w a2 y) :
  Calls Tryz.prog 111 #[.slice a1 x.length c1, .slice a2 y.length c2] w fun e w' => e = .returned (.bool (decide (x = y))) /\ Below w.heap.size w w' := by
 have H1 := hid h1
 have H2 := hid h2
 clear h1 h2
 by_cases hl : x.length = y.length
 ·obtain ⟨n, hn⟩ := exE (x.length)
  have HN := hid hn
  have HLY : Hid (y.length = n) := by rw [hn]; exact hl.symm
  rw [<- hl, <- hn]
  rw [<- hn] at hx
  clear hn hl
  go_enter Tryz.func111, Tryz.ntmps111
  go_wp2_with fail
  go_loopw [13] (fun iv wr => ∃ k : Nat, k <= n /\ iv = .int .i64 k /\ Hid ((∀ j, j < k -> zat x j = zat y j) /\ Below w.heap.size w wr)) (fun iv _ => n - (intOf iv).toNat)
  case atStart => exact ⟨0, by omega, rfl, fun j hj => by omega, Below.refl _ _⟩
  case round =>
   obtain ⟨k, hk, rfl, hC⟩ := hrel
   by_cases hlt : k < n
   ·have hlt2 : (k : Int) < (n : Int) := by omega
    have hks : IntKind.i64.wrap ((k : Int) + 1) = (k : Int) + 1 := by rw [IntKind.wrap_i64]; omega
    obtain ⟨b1, o1, rfl, hb1, hc1⟩ := H1.out k (by rw [<- HN.out]; exact hlt)
    obtain ⟨b2, o2, rfl, hb2, hc2⟩ := H2.out k (by rw [HLY.out]; exact hlt)
    have k1 := (hC.out.2.cell (p := ⟨b1, o1 + k, none⟩) hb1).trans hc1
    have k2 := (hC.out.2.cell (p := ⟨b2, o2 + k, none⟩) hb2).trans hc2
    have HB := hid hC.out.2
    have HP := hid hC.out.1
    clear hC hc1 hc2 hb1 hb2
    by_cases he : zat x k = zat y k
    ·have HE : Hid ((∀ j, j < k + 1 -> zat x j = zat y j) /\ Below w.heap.size w wr.drew) := ⟨fun j hj => by
      rcases Nat.lt_or_ge j k with h' | h'
      ·exact HP.out j h'
      ·rw [show j = k by omega]; exact he, HB.out.drew⟩
     rw [he] at k1
     generalize zat y k = v at *
     clear he
     go_wp2_with fail
     go_region_held3 (fun W => W.cell? ⟨b1, o1 + k, none⟩ = some (.int .i64 v) /\ W.cell? ⟨b2, o2 + k, none⟩ = some (.int .i64 v)) (go_keep) (fail)
     go_wp2_with fail
     go_roundw
     case rel => exact ⟨k + 1, by omega, by go_num, HE⟩
     case measure => simp [intOf]; omega
    ·have HNE : Hid (¬ x = y) := fun e => he (by rw [e])
     have hne : (zat x k != zat y k) = true := by simpa using he
     generalize zat x k = u at *
     generalize zat y k = v at *
     go_wp2_with fail
     go_region_held3 (fun W => W.cell? ⟨b1, o1 + k, none⟩ = some (.int .i64 u) /\ W.cell? ⟨b2, o2 + k, none⟩ = some (.int .i64 v)) (go_keep) (fail)
     go_wp2_with fail
     go_ret
     exact ⟨by rw [decide_eq_false HNE.out]; rfl, HB.out.drew⟩
   ·obtain rfl : k = n := by omega
    have HE := hC
    clear hC
    go_wp2_with fail
    go_ret
    refine ⟨?_, HE.out.2⟩
    rw [decide_eq_true (eq_of_zat (by rw [<- HN.out]; exact HLY.out.symm) (fun j hj => HE.out.1 j (by rw [HN.out]; exact hj)))]
    rfl
 ·have hne : ((x.length : Int) != (y.length : Int)) = true := by simp; omega
  have HNE : Hid (¬ x = y) := fun e => hl (by rw [e])
  clear hl
  go_enter Tryz.func111, Tryz.ntmps111
  go_wp2_with fail
  go_ret
  exact ⟨by rw [decide_eq_false HNE.out]; rfl, Below.refl _ _⟩
end Go.Proofs.YtlhjifpomchnfaaGreatDoor
