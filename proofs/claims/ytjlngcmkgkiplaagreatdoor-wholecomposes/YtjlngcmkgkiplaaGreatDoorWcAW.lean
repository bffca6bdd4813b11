
import Derived.Test.YtjlngcmkgkiplaaGreatDoorPls
import Derived.Deep.RegionWith
import Derived.Test.YtjlngcmkgkiplaaGreatDoorPlain
import Derived.Test.YtjlngcmkgkiplaaGreatDoorDoms
import Derived.Test.YtjlngcmkgkiplaaGreatDoorWcAP
import Derived.Test.YtjlngcmkgkiplaaGreatDoorWcAQ
import Derived.Test.YtjlngcmkgkiplaaGreatDoorWcAV
set_option maxRecDepth 1000000
set_option maxHeartbeats 8000000
namespace Go.Proofs.YtjlngcmkgkiplaaGreatDoor
open Go.RowKit
def tm (p : Nat) (xs ys : List Int) (i : Nat) : List Int := Pol.mk p (Pol.mul (Pol.lo i (Pol.cf xs)) (Pol.cf ys)) (i + ys.length)
open Go.RowKit Pol
def pk (P : Nat -> Bool) (F : Nat -> Int) : Nat -> List Int
 | 0 => []
 | n + 1 => if P n then pk P F n ++ [F n] else pk P F n
structure DO (w : World) (p b d n : Nat) (r s : Int) : Prop where
 pr : Num.Prime p
 h3 : 3 <= p
 hm : p <= 2147483647
 hp : w.cell? ⟨b, 0, none⟩ = some (.int .i64 p)
 da : DomAt w d b n r s
 hk : ∃ k, k <= 16 /\ n = 2 ^ k
 hr0 : 0 <= r
 hr1 : r < p
 ord : Dom.Ord p r n
 hs0 : 0 <= s
 hs1 : s < p
 hsd : ¬ (p : Int) ∣ s
theorem DO.below {w w' : World} {p b d n n0 : Nat} {r s : Int} (h : DO w p b d n r s) (e : Below n0 w w') (hb : b < n0) (hd : d < n0) : DO w' p b d n r s :=
 ⟨h.pr, h.h3, h.hm, (e.cell (p := ⟨b, 0, none⟩) hb).trans h.hp, h.da.below e hd, h.hk, h.hr0, h.hr1, h.ord, h.hs0, h.hs1, h.hsd⟩
theorem DO.blt {w : World} {p b d n : Nat} {r s : Int} (h : DO w p b d n r s) : b < w.heap.size := heap_lt h.hp
theorem DO.dlt {w : World} {p b d n : Nat} {r s : Int} (h : DO w p b d n r s) : d < w.heap.size := h.da.lt
theorem values_ok {w : World} {p b d n : Nat} {r s : Int} (D : DO w p b d n r s) (a : Option Addr) (cap : Nat) (zs : List Int) (hlen : zs.length <= 281474976710656) (hfit : Fits zs) (hrow : RowB w.heap.size w a zs) :
  Calls Tryz.prog 43 #[.pointer (some ⟨d, 0, none⟩), .slice a zs.length cap] w fun e w' =>
   e = .returned (.slice (some ⟨w.heap.size, 0, none⟩) n n) /\ w'.rowIs w.heap.size 3 n (fun j => .int .i64 (evz p zs (Dom.pt p s r j))) /\ Below w.heap.size w w' /\ w.heap.size < w'.heap.size := by
 obtain ⟨k, h1, h2⟩ := D.hk
 exact values_any p b d k n cap r s (· < w.heap.size) a zs w D.pr D.h3 D.hm D.hp D.da h1 h2 D.hr0 D.hr1 D.ord D.hs0 D.hs1 hlen hfit hrow (fun _ h => h)
def bk (p n : Nat) (r s : Int) (zs : List Int) : List Int := Pol.trim p (ls (coefs p zs n (invn p r) (invn p n) (invn p s)) n)
theorem bk_len (p n : Nat) (r s : Int) (zs : List Int) : (bk p n r s zs).length <= n := by
 have := Pol.trim_le p (ls (coefs p zs n (invn p r) (invn p n) (invn p s)) n); rw [ls_len] at this; exact this
theorem bk_can {p : Nat} (hp : 0 < p) (n : Nat) (r s : Int) (zs : List Int) : Pol.Can p (bk p n r s zs) := Pol.trim_can hp _
open Go.RowKit Go.Maps
def cvz (q n : Nat) (rH rD g : Int) (rows : List (List Int)) (i j : Nat) : Int := evz q (bk q n rH 1 (colz rows j)) (Dom.pt q g rD i)
def spR (v : Nat -> Nat -> Int) (N m j i : Nat) : List (List Int) := (List.range N).map fun x => ls (fun y => if y < j ∨ (y = j /\ x < i) then v x y else 0) m
theorem spR_len (v : Nat -> Nat -> Int) (N m j i : Nat) : (spR v N m j i).length = N := by simp [spR]
theorem spR_rat (v : Nat -> Nat -> Int) {N m j i x : Nat} (h : x < N) : rat (spR v N m j i) x = ls (fun y => if y < j ∨ (y = j /\ x < i) then v x y else 0) m := by simp [spR, rat, h]
theorem spR_row (v : Nat -> Nat -> Int) {N m j i x : Nat} (h : x < N) : (rat (spR v N m j i) x).length = m := by rw [spR_rat v h, ls_len]
theorem ls_ext {F G : Nat -> Int} {m : Nat} (h : ∀ y, y < m -> F y = G y) : ls F m = ls G m := by
 unfold ls
 apply List.map_congr_left
 intro y hy
 exact h y (List.mem_range.1 hy)
theorem spR_put (v : Nat -> Nat -> Int) {N m j i : Nat} (hi : i < N) (hj : j < m) : put (spR v N m j i) i j (v i j) = spR v N m j (i + 1) := by
 apply rows_ext
 ·rw [put_len, spR_len, spR_len]
 ·intro x hx
  rw [put_len, spR_len] at hx
  rw [put_rat (by rw [spR_len]; exact hi), spR_rat v hx]
  by_cases e : x = i
  ·subst e
   rw [if_pos rfl, spR_rat v hx, spR_rat v hx]
   apply List.ext_getElem
   ·simp [ls]
   ·intro y h1 h2
    have hy : y < m := by simpa [ls] using h1
    by_cases e2 : y = j
    ·subst e2; simp [ls]
    ·rw [List.getElem_set_ne (fun h => e2 h.symm)]
     simp [ls, e2]
  ·rw [if_neg e, spR_rat v hx]
   apply ls_ext
   intro y _
   by_cases c : y < j ∨ (y = j /\ x < i)
   ·rw [if_pos c, if_pos (by omega)]
   ·rw [if_neg c, if_neg (by omega)]
theorem spR_next (v : Nat -> Nat -> Int) (N m j : Nat) : spR v N m j N = spR v N m (j + 1) 0 := by
 apply rows_ext
 ·rw [spR_len, spR_len]
 ·intro x hx
  rw [spR_len] at hx
  rw [spR_rat v hx, spR_rat v hx]
  apply ls_ext
  intro y _
  by_cases c : y < j ∨ (y = j /\ x < N)
  ·rw [if_pos c, if_pos (by omega)]
  ·rw [if_neg c, if_neg (by omega)]
def cpl (F : Nat -> Int) (n x : Nat) : List Int := ls (fun y => if y < x then F y else 0) n
theorem cpl_len (F : Nat -> Int) (n x : Nat) : (cpl F n x).length = n := ls_len _ _
theorem cpl_zero (F : Nat -> Int) (n : Nat) : cpl F n 0 = List.replicate n 0 := by
 apply List.ext_getElem
 ·simp [cpl, ls]
 ·intro y h1 h2
  simp [cpl, ls]
theorem cpl_set (F : Nat -> Int) {n x : Nat} (h : x < n) : (cpl F n x).set x (F x) = cpl F n (x + 1) := by
 apply List.ext_getElem
 ·simp [cpl, ls]
 ·intro y h1 h2
  have hy : y < n := by simpa [cpl, ls] using h1
  by_cases e : y = x
  ·subst e; simp [cpl, ls]
  ·rw [List.getElem_set_ne (fun h => e h.symm)]
   simp only [cpl, ls, List.getElem_map, List.getElem_range]
   by_cases c : y < x
   ·rw [if_pos c, if_pos (by omega)]
   ·rw [if_neg c, if_neg (by omega)]
theorem cpl_end (F : Nat -> Int) (n : Nat) : cpl F n n = ls F n := ls_ext fun y hy => by rw [if_pos hy]
def spT (v : Nat -> Nat -> Int) (N m : Nat) : List (List Int) := (List.range N).map fun x => ls (v x) m
theorem spR_end (v : Nat -> Nat -> Int) (N m : Nat) : spR v N m m 0 = spT v N m := by
 unfold spR spT
 apply List.map_congr_left
 intro x _
 apply ls_ext
 intro y hy
 rw [if_pos (.inl hy)]
theorem spR_start (v : Nat -> Nat -> Int) (N m x : Nat) (h : x < N) : rat (spR v N m 0 0) x = List.replicate m 0 := by
 rw [spR_rat v h]
 apply List.ext_getElem
 ·simp [ls]
 ·intro y h1 h2
  simp [ls]
theorem spread_any (c b s H D q n g rH rD : Nat) (size out : Int) (aL : Option Addr) (nL cL cR m : Nat) (aR : Option Addr) (rows : List (List Int)) (w : World) (hC : ClmAt w c b s H D q n g rH rD size out aL nL cL) (DH : DO w q b H n rH 1) (DD : DO w q b D (8 * n) rD g)
  (hn0 : 0 < n) (hn : n <= 512) (hrl : rows.length = n) (hm : m <= 100) (hw : ∀ k, k < n -> (rat rows k).length = m) (hF : FitsR rows) (hL : LstR w.heap.size w aR cR rows) :
  Calls Tryz.prog 22 #[.pointer (some ⟨c, 0, none⟩), .slice aR n cR] w fun e w' => ∃ G K, e = .returned (.tuple #[.slice (some ⟨G, 0, none⟩) (8 * n) (8 * n), .nilIface]) /\ Tbl w.heap.size G K w' (spT (cvz q n rH rD g rows) (8 * n) m) /\ Below w.heap.size w w' := by
 obtain ⟨i0, hi, hz0, hz1, hz2⟩ := info_parts (show (Tryz.prog.info? 26).map (fun i => (i.zero, i.size, i.bytes)) = some (some (.slice none 0 0), 1, 24) by kernel_rfl)
 obtain ⟨j0, hj, hy0, hy1, hy2⟩ := info_parts Tryz.infoInt
 obtain ⟨v, hv⟩ := exE (cvz q n rH rD g rows)
 have HV := hid hv
 rw [<- hv]
 obtain ⟨N, hN⟩ := exE (8 * n)
 have HNN := hid hN
 have hNn : N <= 4096 := by omega
 rw [<- hN]
 have kth := hC.th
 have kwd := hC.wd
 have HSZ := hid (size_any D b (N : Int) rD g w (by rw [hN]; exact hC.dD))
 clear hv hN
 go_enter Tryz.func22, Tryz.ntmps22
 go_wp2_with fail
 refine HSZ.out.mono ?_
 rintro e w1 ⟨rfl, hw1⟩
 have hw1' := hw1.symm
 subst hw1'
 clear hw1 HSZ
 go_wp2_with (refine wpList_make_full _ rfl _ _ _ rfl w.heap.size 26 i0 _ 1 Tryz.underlying25 hi hz0 hz1 .i64 .i64 _ _ N rfl rfl rfl rfl (by rw [hz2]; omega) (by unfold maxLen; omega) (by simp) ?_)
 intro w1 hown hgr
 have hb1 : Below w.heap.size w w1 := ⟨hgr.os, hgr.tape, hgr.output, hgr.size, fun k hk => hgr.block k hk (by simp)⟩
 have HI0 : Hid (MkI w.heap.size w.heap.size N 0 (spR v N m 0 0) w w1) := mkI_start hown (Nat.le_refl _) hb1
 obtain ⟨G, hG⟩ := exE (w.heap.size)
 have HGE := hid hG
 have HI0' : Hid (MkI w.heap.size G N 0 (spR v N m 0 0) w w1) := by unfold Hid; rw [hG]; exact HI0.out
 clear HI0 hown hgr hb1
 rw [<- hG]
 clear hG
 obtain ⟨br, orr, ak, ck, rfl, hbr, hcr, _⟩ := hL.row 0 (by omega)
 have hw0 := hw 0 hn0
 rw [hw0] at hcr
 have HCR : Hid (∀ W, Below w.heap.size w W -> W.cell? ⟨br, orr, none⟩ = some (.slice ak m ck)) := fun W hW => (hW.cell (p := ⟨br, orr, none⟩) hbr).trans hcr
 go_wp2_with fail
 go_loopw [7, 24] (fun _ iv wr => ∃ i : Nat, i <= N /\ iv = .int .i64 i /\ Hid (MkI w.heap.size G N i (spR v N m 0 0) w wr)) (fun _ iv _ => N - (intOf iv).toNat)
 case atStart => exact ⟨0, Nat.zero_le _, rfl, HI0'⟩
 case round =>
  obtain ⟨i, hi', rfl, HI⟩ := hrel
  by_cases hlt : i < N
  ·have hlt2 : (i : Int) < (N : Int) := by omega
   have his : IntKind.i64.wrap ((i : Int) + 1) = (i : Int) + 1 := by rw [IntKind.wrap_i64]; omega
   have kr := HCR.out wr HI.out.bel
   obtain ⟨u, kv⟩ := HI.out.out i hlt
   obtain ⟨K, hT⟩ := HI.out.tbl
   have yv := hT.soft i
   have hGl := hT.lt
   have hsz := HI.out.bel.size
   clear hT
   go_wp2_with (refine wpList_make_full _ rfl _ _ _ rfl wr.heap.size 3 j0 _ 1 Tryz.underlying26 hj hy0 hy1 .i64 .i64 _ _ m rfl rfl rfl rfl (by rw [hy2]; omega) (by unfold maxLen; omega) (by simp) ?_)
   intro w2 hown2 hgr2
   have hb2 : Below wr.heap.size wr w2 := ⟨hgr2.os, hgr2.tape, hgr2.output, hgr2.size, fun k hk => hgr2.block k hk (by simp)⟩
   have hBR : BRow wr.heap.size w2 (List.replicate m 0) := brow_made (by rw [Nat.mul_one]; exact hown2)
   have kv2 := (hb2.cell (p := ⟨G, i, none⟩) hGl).trans kv
   have yv2 : w2.frozen? ⟨G, i, none⟩ = false := (World.frozen?_of_block (w := wr) (a := ⟨G, i, none⟩) (hb2.block G hGl)).trans yv
   have HI2 : Hid (MkI w.heap.size G N (i + 1) (spR v N m 0 0) w (w2.setCell ⟨G, i, none⟩ (.slice (some ⟨wr.heap.size, 0, none⟩) m m))) := by
    have h0 := HI.out.more hb2 hlt (by rw [spR_len]; exact hlt) (spR_start v N m i hlt) hBR.row (Nat.le_refl _) hsz
    rw [List.length_replicate] at h0
    exact h0
   clear hown2 hgr2 hb2 hBR HI kv yv kr
   go_wp2_with fail
   go_roundw
   case rel => exact ⟨i + 1, by omega, by go_num, HI2⟩
   case measure => simp [intOf]; omega
  ·obtain rfl : i = N := by omega
   have hlt2 : ¬ (i : Int) < (i : Int) := by omega
   obtain ⟨K, hT⟩ := HI.out.tbl
   rw [List.take_of_length_le (by rw [spR_len]; exact Nat.le_refl _)] at hT
   have HTB := hid hT
   have HBW := hid HI.out.bel
   have kr := HCR.out wr HI.out.bel
   clear hT HI
   obtain ⟨w3, hw3⟩ : ∃ w3, w3 = wr := ⟨wr, rfl⟩
   subst hw3
   have hFc : ∀ j, Fits (colz rows j) := fun j => fits_colz hF j
   have HBC := hid (fun W (hW : Below w.heap.size w W) => hC.below hW hC.lt.1 hC.lt.2.1 hC.lt.2.2.1 hC.lt.2.2.2)
   have HDH := hid (fun W (hW : Below w.heap.size w W) => DH.below hW DH.blt DH.dlt)
   have HDD := hid (fun W (hW : Below w.heap.size w W) => DD.below hW DD.blt DD.dlt)
   have HROW : Hid (∀ x, x < n -> ∃ ak ck, (∀ W, Below w.heap.size w W -> W.cell? ⟨br, orr + x, none⟩ = some (.slice ak m ck)) /\ ∀ y, y < m -> ∃ b2 o2, ak = some ⟨b2, o2, none⟩ /\ ∀ W, Below w.heap.size w W -> W.cell? ⟨b2, o2 + y, none⟩ = some (.int .i64 (zat (rat rows x) y))) := fun x hx => by
    obtain ⟨b', o', ak, ck, e1, e2, e3, e4⟩ := hL.row x (by omega)
    injection e1 with e1
    injection e1 with e1 e1'
    subst e1 e1'
    rw [hw x hx] at e3
    refine ⟨ak, ck, fun W hW => (hW.cell (p := ⟨br, orr + x, none⟩) e2).trans e3, fun y hy => ?_⟩
    obtain ⟨b2, o2, f1, f2, f3⟩ := e4.row y (by rw [hw x hx]; exact hy)
    exact ⟨b2, o2, f1, fun W hW => (hW.cell (p := ⟨b2, o2 + y, none⟩) f2).trans f3⟩
   have HFC := hid hFc
   have HRL := hid hrl
   clear hFc hC DH DD hw hF hL hrl
   go_wp2_with fail
   go_loopw [8, 9, 10, 11, 12, 13, 14, 15, 40] (fun _ _ _ _ _ _ _ _ jv wr => ∃ j : Nat, j <= m /\ jv = .int .i64 j /\ Hid (∃ K, Tbl w.heap.size G K wr (spR v i m j 0)) /\ Hid (Below w.heap.size w wr)) (fun _ _ _ _ _ _ _ _ jv _ => m - (intOf jv).toNat)
   case atStart => exact ⟨0, Nat.zero_le _, rfl, ⟨K, HTB.out⟩, HBW⟩
   case round =>
    obtain ⟨j, hjm, rfl, HTJ, HBJ⟩ := hrel
    by_cases hjl : j < m
    ·have hjl2 : (j : Int) < (m : Int) := by omega
     have hjs : IntKind.i64.wrap ((j : Int) + 1) = (j : Int) + 1 := by rw [IntKind.wrap_i64]; omega
     obtain ⟨w4, hw4⟩ : ∃ w4, w4 = wr := ⟨wr, rfl⟩
     subst hw4
     have hsz4 := HBJ.out.size
     go_wp2_with (refine wpList_make_full _ rfl _ _ _ rfl w4.heap.size 3 j0 _ 1 Tryz.underlying26 hj hy0 hy1 .i64 .i64 _ _ n rfl rfl rfl rfl (by rw [hy2]; omega) (by unfold maxLen; omega) (by simp) ?_)
     intro w5 hown5 hgr5
     have hb5 : Below w4.heap.size w4 w5 := ⟨hgr5.os, hgr5.tape, hgr5.output, hgr5.size, fun k hk => hgr5.block k hk (by simp)⟩
     have hBR5 : BRow w4.heap.size w5 (List.replicate n 0) := brow_made (by rw [Nat.mul_one]; exact hown5)
     obtain ⟨Q, hQ⟩ := exE (w4.heap.size)
     rw [<- hQ] at hBR5 ⊢
     have HBR5 := hid hBR5
     have HB5 := hid hb5
     have hQl : Q < w5.heap.size := hBR5.row.lt
     clear hown5 hgr5 hb5 hBR5
     obtain ⟨F, hFd⟩ : ∃ F : Nat -> Int, F = fun x => zat (rat rows x) j := ⟨_, rfl⟩
     have HCZ : Hid (colz rows j = ls F n) := by unfold Hid; rw [colz_ls, HRL.out, hFd]
     have HRX : Hid (∀ x, x < n -> ∃ b2 o2 ck, (∀ W, Below w.heap.size w W -> W.cell? ⟨br, orr + x, none⟩ = some (.slice (some ⟨b2, o2, none⟩) m ck)) /\ ∀ W, Below w.heap.size w W -> W.cell? ⟨b2, o2 + j, none⟩ = some (.int .i64 (F x))) := fun x hx => by
      obtain ⟨ak, ck, h1, h2⟩ := HROW.out x hx
      obtain ⟨b2, o2, rfl, h5⟩ := h2 j hjl
      exact ⟨b2, o2, ck, h1, fun W hW => by rw [h5 W hW, hFd]⟩
     have HBW4 : Hid (∀ W, Below Q w4 W -> Below w.heap.size w W) := fun W hW => HBJ.out.trans (hW.mono (by rw [hQ]; exact hsz4))
     have HB5' : Hid (Below Q w4 w5) := by unfold Hid; rw [hQ]; exact HB5.out
     have HQ4 := hid hQ
     clear hFd hQ HB5
     go_wp2_with fail
     go_loopw [10, 11, 48] (fun _ _ xv wr => ∃ x : Nat, x <= n /\ xv = .int .i64 x /\ Hid (BRow Q wr (cpl F n x)) /\ Hid (Below Q w4 wr)) (fun _ _ xv _ => n - (intOf xv).toNat)
     case atStart => exact ⟨0, Nat.zero_le _, rfl, by rw [cpl_zero]; exact HBR5, HB5'⟩
     case round =>
      obtain ⟨x, hxn, rfl, HBX, HBB⟩ := hrel
      by_cases hxl : x < n
      ·have hxl2 : (x : Int) < (n : Int) := by omega
       have hxs : IntKind.i64.wrap ((x : Int) + 1) = (x : Int) + 1 := by rw [IntKind.wrap_i64]; omega
       obtain ⟨b2, o2, ck2, h1, h2⟩ := HRX.out x hxl
       have kr1 := h1 wr (HBW4.out wr HBB.out)
       have kr2 := h2 wr (HBW4.out wr HBB.out)
       have hrw := HBX.out.row
       have kq := hrw.cells x (by rw [cpl_len]; exact hxl)
       have yq := hrw.soft x
       have hql := hrw.lt
       have HX2 : Hid (BRow Q (wr.setCell ⟨Q, x, none⟩ (.int .i64 (F x))) (cpl F n (x + 1))) := by
        unfold Hid
        rw [<- cpl_set F hxl]
        exact HBX.out.set (F x) (by rw [cpl_len]; exact hxl)
       have HB2 : Hid (Below Q w4 (wr.setCell ⟨Q, x, none⟩ (.int .i64 (F x)))) := HBB.out.setCell (p := ⟨Q, x, none⟩) (Nat.le_refl _) _
       generalize zat (cpl F n x) x = old at *
       generalize F x = fx at *
       clear h1 h2 hrw HBX HBB
       go_wp2_with fail
       go_roundw
       case rel => exact ⟨x + 1, by omega, by go_num, HX2, HB2⟩
       case measure => simp [intOf]; omega
      ·obtain rfl : x = n := by omega
       have hxl2 : ¬ (x : Int) < (x : Int) := by omega
       rw [cpl_end, <- HCZ.out] at HBX
       have hBw := HBW4.out wr HBB.out
       have kth2 := (HBC.out wr hBw).th
       have hlst := HBX.out.row.lst (n0 := wr.heap.size) HBX.out.row.lt
       have hcl : (colz rows j).length = x := by rw [colz_len, HRL.out]
       have HCO : Hid (Calls Tryz.prog 42 #[.pointer (some ⟨H, 0, none⟩), .slice (some ⟨Q, 0, none⟩) x x] wr fun e w' => ∃ (gg c : Nat), e = .returned (.tuple #[.slice (some ⟨gg, 0, none⟩) (bk q x rH 1 (colz rows j)).length c, .nilIface]) /\ Lst w'.heap.size w' (some ⟨gg, 0, none⟩) c (bk q x rH 1 (colz rows j)) /\ Below wr.heap.size wr w') := by
        have D := HDH.out wr hBw
        obtain ⟨k, h1, h2⟩ := D.hk
        rw [hcl] at hlst
        exact coef_any q b H k x x rH 1 (some ⟨Q, 0, none⟩) (colz rows j) wr D.pr D.h3 D.hm D.hp D.da h1 h2 D.hr0 D.hr1 D.ord D.hs0 D.hs1 hcl (HFC.out j) hlst
       have HBw := hid hBw
       have HVB : Hid (∀ y, v y j = evz q (bk q x rH 1 (colz rows j)) (Dom.pt q g rD y)) := fun y => by rw [HV.out]; rfl
       have hbl := bk_len q x (rH : Int) 1 (colz rows j)
       have hcan := bk_can (p := q) (by have := (HDH.out wr hBw).h3; omega) x (rH : Int) 1 (colz rows j)
       clear hlst hcl hBw
       go_wp2_with fail
       refine HCO.out.mono ?_
       rintro e w6 ⟨gg, cc, rfl, hl6, hb6⟩
       have HB6 := hid (HBw.out.trans (hb6.mono HBw.out.size))
       have kwd2 := (HBC.out w6 HB6.out).wd
       have HVA := hid (values_ok (HDD.out w6 HB6.out) (some ⟨gg, 0, none⟩) cc (bk q x rH 1 (colz rows j)) (by omega) (can_fits (HDH.out wr HBw.out).hm hcan) hl6.row)
       have HB46 : Hid (Below w4.heap.size w4 w6) := by
        have h0 := HBB.out
        rw [HQ4.out] at h0
        exact h0.trans (hb6.mono h0.size)
       clear hl6 hb6 HCO kth2
       generalize bk q x (rH : Int) 1 (colz rows j) = bb at *
       go_wp2_with fail
       refine HVA.out.mono ?_
       rintro e w7 ⟨rfl, hri7, hb7, hlt7⟩
       have e8 : 8 * x = i := HNN.out.symm
       rw [e8] at hri7 ⊢
       obtain ⟨K4, hT4⟩ := HTJ.out
       have hK4 : ∀ k, k < i -> K4 k < w4.heap.size := fun k hk => (hT4.row k (by rw [spR_len]; exact hk)).lt
       have hB46 : Below w4.heap.size w4 w6 := HB46.out
       have hB47 := hB46.trans (hb7.mono hB46.size)
       have HT7 : Hid (Tbl w.heap.size G K4 w7 (spR v i m j 0)) := hT4.below hB47 (Nat.le_refl _)
       obtain ⟨V, hV⟩ := exE (w6.heap.size)
       rw [<- hV] at hri7 ⊢
       have HRI7 := hid hri7
       have HB7 := hid (HB6.out.trans (hb7.mono HB6.out.size))
       have HKV : Hid (∀ k, k < i -> K4 k ≠ V) := fun k hk e => by have := hK4 k hk; have := hB46.size; omega
       clear hri7 hb7 hT4 hK4 hB46 hB47 HVA kwd2 hV
       go_wp2_with fail
       go_loopw [14, 15, 80] (fun _ _ yv wr => ∃ y : Nat, y <= i /\ yv = .int .i64 y /\ Hid (Tbl w.heap.size G K4 wr (spR v i m j y)) /\ Hid (wr.rowIs V 3 i (fun y => .int .i64 (evz q bb (Dom.pt q g rD y)))) /\ Hid (Below w.heap.size w wr)) (fun _ _ yv _ => i - (intOf yv).toNat)
       case atStart => exact ⟨0, Nat.zero_le _, rfl, HT7, HRI7, HB7⟩
       case round =>
        obtain ⟨y, hyi, rfl, HTY, HRY, HBY⟩ := hrel
        by_cases hyl : y < i
        ·have hyl2 : (y : Int) < (i : Int) := by omega
         have hys : IntKind.i64.wrap ((y : Int) + 1) = (y : Int) + 1 := by rw [IntKind.wrap_i64]; omega
         have kV : wr.cell? ⟨V, y, none⟩ = some (.int .i64 (v y j)) := by rw [HVB.out y]; exact HRY.out.cell (i := y) hyl
         have hyl' : y < (spR v i m j y).length := by rw [spR_len]; exact hyl
         have kO := HTY.out.out y hyl'
         rw [spR_row v hyl] at kO
         have hrw := HTY.out.row y hyl'
         have kK := hrw.cells j (by rw [spR_row v hyl]; exact hjl)
         have yK := hrw.soft j
         have HT2 : Hid (Tbl w.heap.size G K4 (wr.setCell ⟨K4 y, j, none⟩ (.int .i64 (v y j))) (spR v i m j (y + 1))) := by
          unfold Hid
          rw [<- spR_put v hyl hjl]
          exact HTY.out.put (v y j) hyl' (by rw [spR_row v hyl]; exact hjl)
         have HR2 : Hid ((wr.setCell ⟨K4 y, j, none⟩ (.int .i64 (v y j))).rowIs V 3 i (fun y => .int .i64 (evz q bb (Dom.pt q g rD y)))) := HRY.out.of_block (Below.heap_setCell _ _ _ _ (fun e => HKV.out y hyl e.symm))
         have HB2 : Hid (Below w.heap.size w (wr.setCell ⟨K4 y, j, none⟩ (.int .i64 (v y j)))) := HTY.out.put_below HBY.out (Nat.le_refl _) (v y j) hyl'
         generalize zat (rat (spR v i m j y) y) j = old at *
         generalize v y j = vy at *
         generalize K4 y = ky at *
         clear hrw HTY HRY HBY hyl'
         go_wp2_with fail
         go_roundw
         case rel => exact ⟨y + 1, by omega, by go_num, HT2, HR2, HB2⟩
         case measure => simp [intOf]; omega
        ·obtain rfl : y = i := by omega
         have hyl2 : ¬ (y : Int) < (y : Int) := by omega
         have HT2 : Hid (∃ K, Tbl w.heap.size G K wr (spR v y m (j + 1) 0)) := ⟨K4, by rw [<- spR_next]; exact HTY.out⟩
         have HB2 := hid HBY.out
         clear HTY HRY HBY
         go_wp2_with fail
         go_roundw
         case rel => exact ⟨j + 1, by omega, by go_num, HT2, HB2⟩
         case measure => simp [intOf]; omega
    ·obtain rfl : j = m := by omega
     have hjl2 : ¬ (j : Int) < (j : Int) := by omega
     obtain ⟨K4, hT4⟩ := HTJ.out
     rw [spR_end] at hT4
     have HE : Hid (Tbl w.heap.size G K4 wr (spT v i j) /\ Below w.heap.size w wr) := ⟨hT4, HBJ.out⟩
     clear hT4 HTJ HBJ
     go_wp2_with fail
     go_ret2
     exact ⟨G, rfl, ⟨K4, HE.out.1⟩, HE.out.2⟩
end Go.Proofs.YtjlngcmkgkiplaaGreatDoor
