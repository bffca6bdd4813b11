
import Derived.Test.YtlhjifpomchnfaaGreatDoorPoAH
import Derived.Shelf.Slices.In.SortNone
import Derived.Lib.SlKeysI
import Derived.Test.YtlhjifpomchnfaaGreatDoorPoAC
import Derived.Test.YtlhjifpomchnfaaGreatDoorPoAA
import Derived.Test.YtlhjifpomchnfaaGreatDoorPoAE
import Derived.Test.YtlhjifpomchnfaaGreatDoorDoms
import Derived.Test.YtlhjifpomchnfaaGreatDoorCodA
import Derived.Deep.RegionHeld3
set_option maxRecDepth 1000000
set_option maxHeartbeats 8000000
namespace Go.Proofs.YtlhjifpomchnfaaGreatDoor
open Go.RowKit
theorem okb_iff {q n : Nat} {root : List Int} {N : Int} {ps : List Int} {rows nodes : List (List Int)} (h : ¬ okb N root ps rows nodes) : chkf q n root N ps rows nodes = false := by
 by_cases hN : 1 <= N /\ N <= 65536 /\ root.length = 4
 ·obtain ⟨M, rfl⟩ := Int.eq_ofNat_of_zero_le (show 0 <= N by omega)
  exact chk_not (by omega) (fun hs => h ⟨hN.1, hN.2.1, hN.2.2, by rw [Int.toNat_natCast]; exact hs⟩)
 ·exact chkf_no (fun hc => hN ⟨hc.1, hc.2.1, hc.2.2.2.1⟩)
theorem check_any (q n d b s c4 cp cr cn : Nat) (a4 ap ar an' : Option Addr) (root : List Int) (N : Int) (ps : List Int) (rows nodes : List (List Int)) (W : World) (ok : SpgOk q n d) (hs : SpgAt W s b q n d) (hpl : ps.length <= 281474976710656) (hnl : nodes.length <= 281474976710656) (hN1 : -9223372036854775808 <= N) (hN2 : N <= 9223372036854775807)
  (hf4 : Fits root) (hfp : Fits ps) (hfr : FitsR rows) (hfn : FitsR nodes) (hl4 : Lst W.heap.size W a4 c4 root) (hp : Lst W.heap.size W ap cp ps) (hr : LstR W.heap.size W ar cr rows) (hn : LstR W.heap.size W an' cn nodes) :
  Calls Tryz.prog 114 #[.pointer (some ⟨s, 0, none⟩), .slice a4 root.length c4, .int .i64 N, .agg #[.slice ap ps.length cp, .slice ar rows.length cr, .slice an' nodes.length cn]] W fun e w' => e = .returned (.bool (chkf q n root N ps rows nodes)) /\ Below W.heap.size W w' := by
 have HB0 : Hid (Below W.heap.size W (W.alloc (.cells #[.slice ap ps.length cp, .slice ar rows.length cr, .slice an' nodes.length cn] 31))) := (Below.refl _ _).alloc (Nat.le_refl _) _
 have HO := hid (tri_arr (tri_new W 31 (.slice ap ps.length cp) (.slice ar rows.length cr) (.slice an' nodes.length cn)))
 have HC : Hid (∀ w, Below W.heap.size W w -> Calls Tryz.prog 178 #[.pointer (some ⟨s, 0, none⟩), .slice a4 root.length c4, .int .i64 N, .agg #[.slice ap ps.length cp, .slice ar rows.length cr, .slice an' nodes.length cn]] w fun e w' => ∃ v, e = .returned (.tuple #[v, .bool (chkf q n root N ps rows nodes)]) /\ Below W.heap.size W w') := fun w hb => by
  by_cases hok : okb N root ps rows nodes
  ·obtain ⟨h1, h2, h4, hsh⟩ := hok
   obtain ⟨M, rfl⟩ := Int.eq_ofNat_of_zero_le (show 0 <= N by omega)
   rw [Int.toNat_natCast] at hsh
   refine (checked_yes q n d b s c4 cp cr cn a4 ap ar an' root M ps rows nodes w (by omega) (by omega) h4 hsh ok (hs.keep hb) hpl hnl hf4 hfp hfr hfn ((hl4.below hb).mono hb.size) ((hp.below hb).mono hb.size) ((hr.below hb).mono hb.size) ((hn.below hb).mono hb.size)).mono ?_
   rintro e w' ⟨g, B, rfl, hd⟩
   rw [chk_says (by have := ok.h23; omega) (by omega) (by omega) h4 hsh]
   exact ⟨_, rfl, hb.trans (hd.2.2.1.mono hb.size)⟩
  ·refine (checked_no s c4 cp cr cn a4 ap ar an' root N ps rows nodes w hN1 hN2 hpl hnl ((hp.below hb).mono hb.size) ((hn.below hb).mono hb.size) hok).mono ?_
   rintro e w' ⟨rfl, hd⟩
   rw [okb_iff hok]
   exact ⟨_, rfl, hb.trans (hd.mono hb.size)⟩
 clear hs hf4 hfp hfr hfn hl4 hp hr hn ok
 generalize chkf q n root N ps rows nodes = t at *
 go_enter Tryz.func114, Tryz.ntmps114
 go_wp2_with fail
 generalize W.alloc (.cells #[.slice ap ps.length cp, .slice ar rows.length cr, .slice an' nodes.length cn] 31) = W0 at *
 have k0 := opn_c0 HO.out
 have k1 := opn_c1 HO.out
 have k2 := opn_c2 HO.out
 go_wp2_with fail
 refine (HC.out W0 HB0.out).mono ?_
 rintro e w1 ⟨v, rfl, hb1⟩
 have HB1 := hid hb1
 clear hb1
 go_wp2_with fail
 go_ret
 exact ⟨rfl, HB1.out⟩
open Go.RowKit Go.Sort
theorem cmp_succ (d : Array Int) (m : Nat) : Lib.compactUpTo d (m + 1) = Lib.compactUpTo d m ++ (if Lib.keeps d m then [d[m]!] else []) := by
 unfold Lib.compactUpTo
 rw [List.range_succ, List.filter_append, List.map_append]
 congr 1
 cases h : Lib.keeps d m <;> simp [h]
theorem cmp_facts (d : Array Int) (hs : ∀ i j, i <= j -> j < d.size -> d[i]! <= d[j]!) : ∀ m, m <= d.size -> (Lib.compactUpTo d m).Pairwise (· < ·) /\ (∀ x, x ∈ Lib.compactUpTo d m ↔ ∃ j, j < m /\ d[j]! = x)
 | 0, _ => ⟨by simp [Lib.compactUpTo], fun x => by simp [Lib.compactUpTo]⟩
 | m + 1, h => by
  obtain ⟨h1, h2⟩ := cmp_facts d hs m (by omega)
  rw [cmp_succ]
  have hmem : ∀ x, (∃ j, j < m + 1 /\ d[j]! = x) ↔ (∃ j, j < m /\ d[j]! = x) ∨ d[m]! = x := fun x => by
   constructor
   ·rintro ⟨j, hj, e⟩
    rcases Nat.lt_or_ge j m with h' | h'
    ·exact .inl ⟨j, h', e⟩
    ·rw [show j = m by omega] at e
     exact .inr e
   ·rintro (⟨j, hj, e⟩ | e)
    ·exact ⟨j, by omega, e⟩
    ·exact ⟨m, by omega, e⟩
  cases hk : Lib.keeps d m with
  | true =>
   refine ⟨?_, fun x => ?_⟩
   ·simp only [if_true]
    refine List.pairwise_append.2 ⟨h1, by simp, fun a ha b hb => ?_⟩
    simp only [List.mem_singleton] at hb
    subst hb
    obtain ⟨j, hj, rfl⟩ := (h2 a).1 ha
    have hne : d[m]! ≠ d[m - 1]! := fun e => by
     rw [Lib.keeps_neg (by omega) e] at hk
     cases hk
    have a1 := hs j (m - 1) (by omega) (by omega)
    have a2 := hs (m - 1) m (by omega) (by omega)
    omega
   ·simp only [if_true, List.mem_append, List.mem_singleton]
    rw [hmem, h2]
    constructor
    ·rintro (h | h)
     ·exact .inl h
     ·exact .inr h.symm
    ·rintro (h | h)
     ·exact .inl h
     ·exact .inr h.symm
  | false =>
   have hm : 0 < m := by
    rcases Nat.eq_zero_or_pos m with e | e
    ·rw [e, Lib.keeps_lt_one d 0 (by omega)] at hk
     cases hk
    ·exact e
   have he : d[m]! = d[m - 1]! := by
    rcases Classical.em (d[m]! = d[m - 1]!) with e | e
    ·exact e
    ·rw [Lib.keeps_pos e] at hk
     cases hk
   refine ⟨by simpa using h1, fun x => ?_⟩
   simp only [Bool.false_eq_true, if_false, List.append_nil]
   rw [hmem, h2]
   constructor
   ·exact .inl
   ·rintro (h | h)
    ·exact h
    ·exact ⟨m - 1, by omega, by rw [<- he]; exact h⟩
theorem once_compact (ps : List Int) : OnceIs ps (Lib.compact (ps.mergeSort fun x y => decide (x <= y))) := by
 have hp := List.mergeSort_perm ps (fun x y => decide (x <= y))
 have hs : (ps.mergeSort fun x y => decide (x <= y)).Pairwise (fun x y => decide (x <= y) = true) := List.pairwise_mergeSort (fun a b c h1 h2 => by simp at *; omega) (fun a b => by simp; omega) ps
 generalize (ps.mergeSort fun x y => decide (x <= y)) = zs at *
 have hs2 : ∀ i j, i <= j -> j < zs.toArray.size -> zs.toArray[i]! <= zs.toArray[j]! := fun i j hij hj => by
  have hj' : j < zs.length := by simpa using hj
  rcases Nat.lt_or_ge i j with h | h
  ·have := List.pairwise_iff_getElem.1 hs i j (by omega) hj' h
   simp at this
   simp [List.getElem!_eq_getElem?_getD, List.getElem?_eq_getElem hj', List.getElem?_eq_getElem (show i < zs.length by omega)]
   exact this
  ·rw [show i = j by omega]
   exact Int.le_refl _
 obtain ⟨h1, h2⟩ := cmp_facts zs.toArray hs2 zs.length (by simp)
 refine ⟨h1, fun x => (h2 x).trans ?_⟩
 rw [<- hp.mem_iff]
 constructor
 ·rintro ⟨j, hj, rfl⟩
  simp [List.getElem!_eq_getElem?_getD, List.getElem?_eq_getElem hj]
 ·intro h
  obtain ⟨j, hj, e⟩ := List.getElem_of_mem h
  exact ⟨j, hj, by simp [List.getElem!_eq_getElem?_getD, List.getElem?_eq_getElem hj, e]⟩
theorem cmp_len (zs : List Int) : (Lib.compact zs).length <= zs.length := by
 unfold Lib.compact Lib.compactUpTo
 rw [List.length_map]
 exact Nat.le_trans (List.length_filter_le _ _) (by simp)
theorem owns_take {w : World} {base g n cap k : Nat} {e : TypeId} {xs : List Value} (h : w.ownsRow base e 1 (.slice (some ⟨g, 0, none⟩) n cap) n xs) (hk : k <= n) : w.ownsRow base e 1 (.slice (some ⟨g, 0, none⟩) k cap) k (xs.take k) := by
 obtain ⟨h1, h2⟩ := h
 rcases h2 with ⟨e1, _⟩ | ⟨g', cap', cur, e1, r1, r2, r3, r4, r5, r6⟩
 ·cases e1
 ·cases e1
  refine ⟨by rw [List.length_take]; omega, .inr ⟨g, cap, cur, rfl, r1, r2, by omega, r4, r5, ?_⟩⟩
  rw [<- r6, List.take_take]
  congr 1
  omega
theorem sorted_any (Bs cap : Nat) (a : Option Addr) (zs : List Int) (w : World) (hlen : zs.length <= 17592186044400) (hc : w.cell? ⟨Bs, 0, none⟩ = some (.slice a zs.length cap)) (hI : RowB w.heap.size w a zs) :
  Calls Tryz.prog 157 #[.func (.func 204) #[] #[.pointer (some ⟨Bs, 0, none⟩)]] w fun e w' => ∃ v, e = .returned v /\ w'.ownsRow w.heap.size 3 1 v zs.length ((zs.mergeSort fun x y => decide (x <= y)).map (Value.int .i64)) /\ Below w.heap.size w w' := by
 have HA := hid (collect_any Bs cap a zs w hlen hc hI)
 clear hc hI
 go_enter Tryz.func157, Tryz.ntmps157
 go_wp2_with fail
 refine HA.out.mono ?_
 rintro e w1 ⟨v, rfl, hrow, hnil, hb⟩
 have HB := hid hb
 clear HA hb
 rcases hrow.2 with ⟨rfl, hz⟩ | ⟨gb, cap', cur, rfl, hbase, hgb, r1, r2, r3, r4⟩
 ·obtain rfl : zs = [] := hnil.1 rfl
  have HS := hid (Any.slices_Sort_int_none Tryz.lays189 none 0 w1)
  have HR := hid hrow
  clear hrow hnil hz
  go_wp2_with fail
  refine HS.out.mono ?_
  rintro e w2 ⟨rfl, rfl⟩
  go_wp2_with fail
  go_ret
  exact ⟨_, rfl, by simpa using HR.out, HB.out⟩
 ·have hH : Holds (Value.int .i64) w1 gb 0 zs.toArray := holds_of_block_i hgb (by simpa using r4)
  have HS := hid (Tryz.sort_any gb 0 cap' zs w1 hH (Array.getElem?_eq_some_iff.1 hgb).1 (by omega))
  have HE : Hid (∀ (n : Nat) (os : Array Obj), (grow (putRow (Value.int .i64) (Sort.ahead w1 n) gb 0 (zs.mergeSort fun x y => decide (x <= y)).toArray) os).ownsRow w.heap.size 3 1 (.slice (some ⟨gb, 0, none⟩) zs.length cap') zs.length ((zs.mergeSort fun x y => decide (x <= y)).map (Value.int .i64)) /\ Below w.heap.size w (grow (putRow (Value.int .i64) (Sort.ahead w1 n) gb 0 (zs.mergeSort fun x y => decide (x <= y)).toArray) os)) := fun n os =>
   ⟨ownsRow_sorted_i (by simp) hbase hgb r1 r2 r3, HB.out.grown (grownBy_sorted_i _) HB.out.size (fun j hj => by cases hj; exact hbase)⟩
  clear hrow hnil hbase hgb r1 r2 r3 r4 hH
  go_wp2_with fail
  refine HS.out.mono ?_
  rintro e w2 ⟨rfl, n, os, rfl⟩
  have HE2 := hid (HE.out n os)
  generalize grow (putRow (Value.int .i64) (Sort.ahead w1 n) gb 0 (zs.mergeSort fun x y => decide (x <= y)).toArray) os = W2 at *
  go_wp2_with fail
  go_ret
  exact ⟨_, rfl, HE2.out.1, HE2.out.2⟩
theorem compact_nil (w : World) : Calls Tryz.prog 117 #[.slice none 0 0] w fun e w' => e = .returned (.slice none 0 0) /\ w' = w := by
 go_enter Tryz.func117, Tryz.ntmps117
 go_wp2
 go_ret
 exact ⟨rfl, rfl⟩
theorem compact_own (base : Nat) (v : Value) (zs : List Int) (w : World) (hlen : zs.length <= 17592186044400) (hv : w.ownsRow base 3 1 v zs.length (zs.map (Value.int .i64))) (hbw : base <= w.heap.size) :
  Calls Tryz.prog 117 #[v] w fun e w' => ∃ v', e = .returned v' /\ w'.ownsRow base 3 1 v' (Lib.compact zs).length ((Lib.compact zs).map (Value.int .i64)) /\ Below base w w' := by
 rcases hv.2 with ⟨rfl, hz⟩ | ⟨gb, cap', cur, rfl, hbase, hgb, r1, r2, r3, r4⟩
 ·obtain rfl : zs = [] := List.eq_nil_of_length_eq_zero hz
  refine (compact_nil w).mono ?_
  rintro e w' ⟨rfl, rfl⟩
  exact ⟨_, rfl, hv, Below.refl _ _⟩
 ·have hH : Holds (Value.int .i64) w gb 0 zs.toArray := holds_of_block_i hgb (by simpa using r4)
  refine (Tryz.compact_any gb 0 cap' zs w hH (by omega) r1).mono ?_
  rintro e w' ⟨rfl, q, rfl⟩
  have hl : (Lib.compact zs ++ List.replicate (zs.length - (Lib.compact zs).length) 0).length = zs.length := by
   have := cmp_len zs
   simp
   omega
  have ho := ownsRow_sorted_i (n := q) (os := #[]) hl hbase hgb r1 r2 r3
  have hg := grownBy_sorted_i (w := w) (g := gb) (n := q) (os := #[]) (Lib.compact zs ++ List.replicate (zs.length - (Lib.compact zs).length) 0).toArray
  rw [grow_empty] at ho hg
  refine ⟨_, rfl, ?_, (Below.refl _ _).grown hg hbw (fun j hj => by cases hj; exact hbase)⟩
  have := owns_take ho (cmp_len zs)
  rwa [<- List.map_take, List.take_left'  rfl] at this
def rws (rows : List (List Int)) (a b : Nat) : List (List Int) := (rows.drop a).take (b - a)
theorem rws_len {rows : List (List Int)} {a b : Nat} (h : b <= rows.length) : (rws rows a b).length = b - a := by
 unfold rws
 rw [List.length_take, List.length_drop]
 omega
theorem rat_rws {rows : List (List Int)} {a b k : Nat} (h : k < b - a) : rat (rws rows a b) k = rat rows (a + k) := by
 unfold rws
 rw [rat_take h, rat_drop]
theorem rws_take {rows : List (List Int)} {a m b : Nat} (h2 : m <= b) : (rws rows a b).take (m - a) = rws rows a m := by
 unfold rws
 rw [List.take_take, show min (m - a) (b - a) = m - a by omega]
theorem rws_drop {rows : List (List Int)} {a m b : Nat} (h1 : a <= m) : (rws rows a b).drop (m - a) = rws rows m b := by
 unfold rws
 rw [List.drop_take, List.drop_drop, show a + (m - a) = m by omega, show b - a - (m - a) = b - m by omega]
theorem rws_all (rows : List (List Int)) : rws rows 0 rows.length = rows := by simp [rws]
def DR (q n : Nat) (rows : List (List Int)) (a b : Nat) : List Int := if a < b then rtf q n (b - a) (rws rows a b) else List.replicate 4 0
theorem DR_leaf {q n : Nat} {rows : List (List Int)} {a : Nat} (h : a < rows.length) : DR q n rows a (a + 1) = digl q n (0 :: rat rows a) := by
 unfold DR
 rw [if_pos (by omega), show a + 1 - a = 0 + 1 by omega]
 rw [rtf, if_pos (by rw [rws_len (by omega)]; omega), rat_rws (by omega), Nat.add_zero]
theorem DR_node {q n : Nat} {rows : List (List Int)} {a b : Nat} (h : b <= rows.length) (h2 : 2 <= b - a) : DR q n rows a b = digl q n (1 :: (DR q n rows a (a + lft (b - a)) ++ DR q n rows (a + lft (b - a)) b)) := by
 obtain ⟨_, l2, l3⟩ := lft_spec (b - a)
 have l3' := l3 h2
 obtain ⟨k, hk⟩ : ∃ k, b - a = k + 1 := ⟨b - a - 1, by omega⟩
 have e1 : DR q n rows a b = rtf q n (k + 1) (rws rows a b) := by
  unfold DR
  rw [if_pos (by omega), hk]
 have hl := rws_len (a := a) h
 rw [e1, rtf, if_neg (by rw [hl]; omega), hl]
 have t1 : (rws rows a b).take (lft (b - a)) = rws rows a (a + lft (b - a)) := by
  have := rws_take (rows := rows) (a := a) (m := a + lft (b - a)) (b := b) (by omega)
  rwa [Nat.add_sub_cancel_left] at this
 have t2 : (rws rows a b).drop (lft (b - a)) = rws rows (a + lft (b - a)) b := by
  have := rws_drop (rows := rows) (a := a) (m := a + lft (b - a)) (b := b) (by omega)
  rwa [Nat.add_sub_cancel_left] at this
 rw [t1, t2]
 have g1 : rtf q n k (rws rows a (a + lft (b - a))) = DR q n rows a (a + lft (b - a)) := by
  unfold DR
  rw [if_pos (by omega)]
  exact rtf_more q n (a + lft (b - a) - a) k _ (by rw [rws_len (by omega)]; omega) (by rw [rws_len (by omega)]; omega) (by omega)
 have g2 : rtf q n k (rws rows (a + lft (b - a)) b) = DR q n rows (a + lft (b - a)) b := by
  unfold DR
  rw [if_pos (by omega)]
  exact rtf_more q n (b - (a + lft (b - a))) k _ (by rw [rws_len (by omega)]; omega) (by rw [rws_len (by omega)]; omega) (by omega)
 rw [g1, g2]
theorem dgst_elr {q : Nat} (h3 : 3 <= q) {l : List Int} (hl : l.length = 4) (e : elr q l = l) : Dgst q l := ⟨hl, fun j hj => by
 have h := emod_bounds (zat l j) q h3
 have : zat (elr q l) j = zat l j % (q : Int) := by unfold elr; rw [ls_at _ _ _ (by omega)]
 rw [e] at this
 rw [this]
 exact h⟩
theorem DR_dgst {q : Nat} (h3 : 3 <= q) (n : Nat) (rows : List (List Int)) (a b : Nat) : Dgst q (DR q n rows a b) := by
 unfold DR
 by_cases h : a < b
 ·rw [if_pos h]
  exact dgst_elr h3 (rtf_len _ _ _ _ (by omega)) (elr_rtf h3 n _ _ (by omega))
 ·rw [if_neg h]
  refine ⟨by simp, fun j hj => ?_⟩
  have : j = 0 ∨ j = 1 ∨ j = 2 ∨ j = 3 := by omega
  rcases this with rfl | rfl | rfl | rfl <;> simp [zat] <;> omega
theorem ndf_hd (q n : Nat) (rows : List (List Int)) (os : List Int) : ∀ (k a c : Nat), 1 <= c -> c <= k -> a + c <= rows.length -> ndf q n k (rws rows a (a + c)) os (a : Int) = (hd2 os k a c).map (fun g => DR q n rows g.1 g.2)
 | 0, _, _, h1, h2, _ => by omega
 | k + 1, a, c, h1, h2, h3 => by
  have hl : (rws rows a (a + c)).length = c := by rw [rws_len h3]; omega
  rw [ndf, hl]
  by_cases hs : smb os (a : Int) ((a : Int) + (c : Int)) = false
  ·rw [if_pos hs, hd2_none hs]
   simp only [List.map_cons, List.map_nil]
   unfold DR
   rw [if_pos (by omega)]
   rw [rtf_more q n (a + c - a) (k + 1) _ (by omega) (by omega) (by omega)]
  ·rw [if_neg hs]
   by_cases hc : c = 1
   ·rw [if_pos hc, hd2, if_neg hs, if_pos hc]
    rfl
   ·rw [if_neg hc, hd2_part hs hc, List.map_append]
    obtain ⟨_, l2, l3⟩ := lft_spec c
    have l3' := l3 (by omega)
    have t1 : (rws rows a (a + c)).take (lft c) = rws rows a (a + lft c) := by
     have := rws_take (rows := rows) (a := a) (m := a + lft c) (b := a + c) (by omega)
     rwa [Nat.add_sub_cancel_left] at this
    have t2 : (rws rows a (a + c)).drop (lft c) = rws rows (a + lft c) (a + lft c + (c - lft c)) := by
     have := rws_drop (rows := rows) (a := a) (m := a + lft c) (b := a + c) (by omega)
     rw [show a + lft c + (c - lft c) = a + c by omega]
     rwa [Nat.add_sub_cancel_left] at this
    rw [t1, t2, show (a : Int) + ((lft c : Nat) : Int) = ((a + lft c : Nat) : Int) by omega]
    rw [ndf_hd q n rows os k a (lft c) (by omega) (by omega) (by omega), ndf_hd q n rows os k (a + lft c) (c - lft c) (by omega) (by omega) (by omega)]
theorem ndf_all (q n : Nat) (rows : List (List Int)) (os : List Int) (h : 1 <= rows.length) : ndf q n rows.length rows os 0 = (hd2 os rows.length 0 rows.length).map (fun g => DR q n rows g.1 g.2) := by
 have := ndf_hd q n rows os rows.length 0 rows.length h (Nat.le_refl _) (by omega)
 rwa [Nat.zero_add, rws_all] at this
theorem rdy_rows {q n : Nat} {rows : List (List Int)} {M : Nat -> Nat -> Option (List Int)} : ∀ (c a b : Nat), b - a <= c -> a < b -> b <= rows.length -> (∀ x, a <= x -> x < b -> M x (x + 1) ≠ none) -> Rdy q n (DR q n rows) M a b
 | 0, _, _, h1, h2, _, _ => by omega
 | c + 1, a, b, h1, h2, h3, h => by
  by_cases hc : b = a + 1
  ·subst hc
   exact .found (h a (Nat.le_refl _) (by omega))
  ·obtain ⟨_, l2, l3⟩ := lft_spec (b - a)
   have l3' := l3 (by omega)
   refine .node (by omega) (DR_node h3 (by omega)) ?_ ?_
   ·exact rdy_rows c a (a + lft (b - a)) (by omega) (by omega) (by omega) (fun x h1 h2 => h x h1 (by omega))
   ·exact rdy_rows c (a + lft (b - a)) b (by omega) (by omega) h3 (fun x h1 h2 => h x (by omega) h2)
theorem results_ct {P : Program} {fn : Func} {p u : Tmp} {ty : TypeId} (h : fn.results = #[.cell p ty, .tmp u]) (tmps : Array Value) (w : World) (g : Nat) (tt : TypeId) (cs : Array Value) (fr : Nat × Nat) (d : TypeDesc)
  (hp : tmps.getD p undef = .pointer (some ⟨g, 0, none⟩)) (hg : w.heap[g]? = some (.cells cs tt fr))
  (hu : P.underlying ty = some d) (hd : (match d with | .struct _ | .array _ _ => true | _ => false) = true) (hi : (P.info? ty).map (·.size) = some cs.size) :
  (results fn tmps).run P w = .ok (.tuple #[.agg cs, tmps.getD u undef]) w := by
 have hp' : tmps[p]?.getD undef = .pointer (some ⟨g, 0, none⟩) := by simpa using hp
 simp [results, h, hp', asAddr, run_loadVar_row w g tt ty cs fr d hg hu hd hi]
def NotC (w : World) (B : Nat) : Prop := ∀ c t f, w.heap[B]? ≠ some (.cells c t f)
theorem SlR.pair {w w' : World} {O B : Nat} {u : Value} {r : List Int} (h : SlR w r u) (hO : ∃ c f, w.heap[O]? = some (.cells c 31 f)) (hB : B = O ∨ NotC w B) (hp : Pair O B w w') : SlR w' r u :=
 h.blocks hp.size (fun b hb hn => by
  have h1 := ne_O hO hn
  refine hp.block b hb h1 ?_
  rcases hB with rfl | hB
  ·exact h1
  ·rintro rfl
   obtain ⟨c, t, f, h2, _⟩ := hn
   exact hB c t f h2)
theorem OwnR.pair {base : Nat} {w w' : World} {O B : Nat} {u : Value} {rs : List (List Int)} (h : OwnR base w u rs) (hO : ∃ c f, w.heap[O]? = some (.cells c 31 f)) (hB : B = O ∨ NotC w B) (hp : Pair O B w w') : OwnR base w' u rs := by
 obtain ⟨vals, ⟨h0, h1⟩, h2⟩ := h
 refine ⟨vals, ⟨h0, ?_⟩, fun j hj => ?_⟩
 ·rcases h1 with h1 | ⟨g, cap, cur, h3, h4, hg, h5⟩
  ·exact .inl h1
  ·have hgO : g ≠ O := by
    rintro rfl
    obtain ⟨c, f, h6⟩ := hO
    rw [hg] at h6
    injection h6 with h6
    injection h6 with _ h6 _
    exact absurd h6 (by decide)
   refine .inr ⟨g, cap, cur, h3, h4, (hp.block g (Array.getElem?_eq_some_iff.1 hg).1 hgO ?_).trans hg, h5⟩
   rcases hB with rfl | hB
   ·exact hgO
   ·rintro rfl
    exact hB _ _ _ hg
 ·obtain ⟨x, h3, h4⟩ := h2 j hj
  exact ⟨x, h3, h4.pair hO hB hp⟩
theorem pair_gb {O B : Nat} {A w w' : World} (h : Pair O B A w) (hg : w.grownBy w' (some B)) : Pair O B A w' :=
 h.trans ⟨hg.os, hg.tape, hg.output, hg.size, fun k hk _ h2 => hg.block k hk (by intro e; injection e with e; exact h2 e)⟩
theorem pair_bl {O B : Nat} {A w w' : World} (h : Pair O B A w) (hg : Below A.heap.size w w') (hs : w.heap.size <= w'.heap.size) : Pair O B A w' :=
 ⟨hg.os.trans h.os, hg.tape.trans h.tape, hg.output.trans h.output, Nat.le_trans h.size hs, fun k hk h1 h2 => (hg.block k hk).trans (h.block k hk h1 h2)⟩
theorem run_row1 (W : World) (base : Nat) (v u : Value) (rs : List (List Int)) (r : List Int) (hown : OwnR base W v rs) (hu : SlR W r u) (hlen : rs.length + 1 <= 5864062014805) (hbase : base <= W.heap.size) :
  ∃ v' w', (Builtin.append_ #[29, 29] 29 #[v, .slice (some ⟨W.heap.size, 0, none⟩) 1 1]).run Tryz.prog (W.alloc (.cells #[u] 22)) = .ok v' w' /\ OwnR base w' v' (rs ++ [r]) /\ Below base W w' /\ (∀ b, b < W.heap.size -> NotRow W b -> w'.heap[b]? = W.heap[b]?) /\ (∀ b, b < W.heap.size -> some b ≠ v.ownBlock -> w'.heap[b]? = W.heap[b]?) /\ W.heap.size <= w'.heap.size := by
 obtain ⟨i0, hi, hz0, hz1, hz2⟩ := info_parts Tryz.infoSl
 have hbw : Below W.heap.size W (W.alloc (.cells #[u] 22)) := (Below.refl _ _).alloc (Nat.le_refl _) _
 have hown' := hown.keep hbw
 have howb := hown'.own
 obtain ⟨vals, h1, h2⟩ := hown'
 have hvl : vals.length = rs.length := by have := h1.1; omega
 obtain ⟨v', w2, hr, hown2, hgrow, _⟩ := run_append_own (P := Tryz.prog) (W.alloc (.cells #[u] 22)) base 29 29 22 i0 (.slice none 0 0) 1 24 Tryz.underlying29 hi hz0 hz1 hz2 rfl (by decide) v rs.length vals h1 ⟨W.heap.size, 0, none⟩ 1 1 [u] rfl
  (by
   intro j t hj
   match j, hj with
   | 0, hj => simp at hj; subst hj; simp [Addr.add])
  (by
   intro t ht
   rw [List.mem_singleton.1 ht]
   exact hu.one) (by unfold maxLen; omega) (by omega) (by simp; omega)
 have hsz : W.heap.size <= w2.heap.size := by have := hgrow.size; simp at this; omega
 have hB : Below base (W.alloc (.cells #[u] 22)) w2 := (Below.refl base _).grown hgrow (by simp; omega) (fun k hk => (howb k hk).1)
 have hN : ∀ b, b < (W.alloc (.cells #[u] 22)).heap.size -> NotRow (W.alloc (.cells #[u] 22)) b -> w2.heap[b]? = (W.alloc (.cells #[u] 22)).heap[b]? := fun b hb hn => hgrow.block b hb (fun e => (howb b e.symm).2.2 hn)
 refine ⟨v', w2, hr, ⟨vals ++ [u], by rw [List.length_append]; exact hown2, fun j hj => ?_⟩, (hbw.mono hbase).trans hB, fun b hb hn => ?_, fun b hb hne => ?_, hsz⟩
 ·rw [List.length_append] at hj
  rw [rat_app rs [r] j]
  by_cases hjr : j < rs.length
  ·rw [if_pos hjr, List.getElem?_append_left (by omega)]
   obtain ⟨u', e1, e2⟩ := h2 j hjr
   exact ⟨u', e1, e2.blocks hgrow.size hN⟩
  ·rw [if_neg hjr, List.getElem?_append_right (by omega), hvl]
   obtain rfl : j = rs.length := by simp at hj; omega
   rw [Nat.sub_self]
   exact ⟨u, rfl, (hu.keep hbw).blocks hgrow.size hN⟩
 ·have e := hbw.block b hb
  obtain ⟨c, t, f, h4, h5⟩ := hn
  exact (hN b (by simp; omega) ⟨c, t, f, e.trans h4, h5⟩).trans e
 ·exact (hgrow.block b (by simp; omega) hne).trans (hbw.block b hb)
def OpnR (q n : Nat) (rows : List (List Int)) (ps : List Int) (w : World) (e : Ending) (w' : World) : Prop :=
 ∃ os ap ar an' cp cr cn, e = .returned (.tuple #[.agg #[.slice ap os.length cp, .slice ar (shw q rows os).length cr, .slice an' (ndf q n rows.length rows os 0).length cn], .nilIface]) /\ OnceIs ps os /\ SlR w' os (.slice ap os.length cp) /\ OwnR w.heap.size w' (.slice ar (shw q rows os).length cr) (shw q rows os) /\ OwnR w.heap.size w' (.slice an' (ndf q n rows.length rows os 0).length cn) (ndf q n rows.length rows os 0) /\ Below w.heap.size w w'
def shV (b d v : Nat) : Value := .agg #[.pointer (some ⟨b, 0, none⟩), .pointer (some ⟨d, 0, none⟩), .int .i64 ((v / 2 : Nat) : Int), .int .i64 ((v - v / 2 : Nat) : Int)]
theorem wide_any (x y : Value) (h : Int) (l : Nat) (w : World) (hl : l <= 12) : Calls Tryz.prog 105 #[.agg #[x, y, .int .i64 h, .int .i64 (l : Int)]] w fun e w' => e = .returned (.int .i64 ((2 ^ l : Nat) : Int)) /\ Below w.heap.size w w' := by
 have hb : Below w.heap.size w (w.alloc (.cells #[x, y, .int .i64 h, .int .i64 (l : Int)] 87)) := (Below.refl _ _).alloc (Nat.le_refl _) _
 have HB := hid hb
 clear hb
 have hc : l = 0 ∨ l = 1 ∨ l = 2 ∨ l = 3 ∨ l = 4 ∨ l = 5 ∨ l = 6 ∨ l = 7 ∨ l = 8 ∨ l = 9 ∨ l = 10 ∨ l = 11 ∨ l = 12 := by omega
 clear hl
 rcases hc with rfl | rfl | rfl | rfl | rfl | rfl | rfl | rfl | rfl | rfl | rfl | rfl | rfl <;>
 (go_enter Tryz.func105, Tryz.ntmps105
  go_wp2_with fail
  go_ret
  exact ⟨rfl, HB.out⟩)
theorem tall_any (x y h : Value) (l : Nat) (w : World) (hl : l <= 12) : Calls Tryz.prog 113 #[.agg #[x, y, .int .i64 (l : Int), h]] w fun e w' => e = .returned (.int .i64 ((2 ^ l : Nat) : Int)) /\ Below w.heap.size w w' := by
 have hb : Below w.heap.size w (w.alloc (.cells #[x, y, .int .i64 (l : Int), h] 87)) := (Below.refl _ _).alloc (Nat.le_refl _) _
 have HB := hid hb
 clear hb
 have hc : l = 0 ∨ l = 1 ∨ l = 2 ∨ l = 3 ∨ l = 4 ∨ l = 5 ∨ l = 6 ∨ l = 7 ∨ l = 8 ∨ l = 9 ∨ l = 10 ∨ l = 11 ∨ l = 12 := by omega
 clear hl
 rcases hc with rfl | rfl | rfl | rfl | rfl | rfl | rfl | rfl | rfl | rfl | rfl | rfl | rfl <;>
 (go_enter Tryz.func113, Tryz.ntmps113
  go_wp2_with fail
  go_ret
  exact ⟨rfl, HB.out⟩)
theorem mayAsk_any (a : Int) (w : World) : Calls Tryz.prog 31 #[.int .i64 a] w fun e w' => e = .returned (.bool (decide (1 <= a /\ a <= 64))) /\ w' = w := by
 by_cases h1 : 1 <= a
 ·by_cases h2 : a <= 64
  ·have HE : Hid (decide (1 <= a /\ a <= 64) = true) := decide_eq_true ⟨h1, h2⟩
   rw [HE.out]
   go_enter Tryz.func31, Tryz.ntmps31
   go_wp2_with fail
   go_ret
   exact ⟨by first | rfl | simp [h1, h2], rfl⟩
  ·have HE : Hid (decide (1 <= a /\ a <= 64) = false) := decide_eq_false (fun h => h2 h.2)
   rw [HE.out]
   go_enter Tryz.func31, Tryz.ntmps31
   go_wp2_with fail
   go_ret
   exact ⟨by first | rfl | simp [h2], rfl⟩
 ·have HE : Hid (decide (1 <= a /\ a <= 64) = false) := decide_eq_false (fun h => h1 h.1)
  rw [HE.out]
  go_enter Tryz.func31, Tryz.ntmps31
  go_wp2_with fail
  go_ret
  exact ⟨by first | rfl | simp [h1], rfl⟩
theorem newShape_no (d : Nat) (v : Int) (w : World) (hv : v < 0 ∨ 12 < v) : Calls Tryz.prog 52 #[.pointer (some ⟨d, 0, none⟩), .int .i64 v] w fun e w' => e = .returned (.tuple #[.agg #[.pointer none, .pointer none, .int .i64 0, .int .i64 0], .bool false]) /\ Below w.heap.size w w' := by
 have HB : Hid (Below w.heap.size w (w.alloc (.cells #[.pointer none, .pointer none, .int .i64 0, .int .i64 0] 87))) := (Below.refl _ _).alloc (Nat.le_refl _) _
 by_cases h0 : v < 0
 ·clear hv
  go_enter Tryz.func52, Tryz.ntmps52
  go_wp2_with fail
  refine bodyPost_ret (results_ct rfl _ _ w.heap.size 87 #[.pointer none, .pointer none, .int .i64 0, .int .i64 0] (0, 0) _ rfl (heap_alloc_new w _) Tryz.underlying87 rfl (by kernel_rfl)) rfl ?_
  exact ⟨rfl, HB.out⟩
 ·have h1 : 12 < v := by omega
  clear hv
  go_enter Tryz.func52, Tryz.ntmps52
  go_wp2_with fail
  refine bodyPost_ret (results_ct rfl _ _ w.heap.size 87 #[.pointer none, .pointer none, .int .i64 0, .int .i64 0] (0, 0) _ rfl (heap_alloc_new w _) Tryz.underlying87 rfl (by kernel_rfl)) rfl ?_
  exact ⟨rfl, HB.out⟩
theorem newShape_yes (d b v N : Nat) (r s : Int) (w : World) (hd : DomAt w d b (N : Int) r s) (hv : v <= 12) (hN : N <= 65536) :
  Calls Tryz.prog 52 #[.pointer (some ⟨d, 0, none⟩), .int .i64 (v : Int)] w fun e w' => e = .returned (.tuple #[shV b d v, .bool (decide (2 ^ (v - v / 2) <= N / 2))]) /\ Below w.heap.size w w' := by
 obtain ⟨R, hR⟩ := exE (w.heap.size)
 obtain ⟨W0, hW0⟩ := exE (w.alloc (.cells #[.pointer none, .pointer none, .int .i64 0, .int .i64 0] 87))
 have hB0 := blA hW0
 have hQ0 : W0.rowIs R 87 4 (quad (.pointer none) (.pointer none) (.int .i64 0) (.int .i64 0)) := by rw [hW0, hR]; exact quad_new w _ _ _ _ _
 have hd0 : DomAt W0 d b (N : Int) r s := hd.below hB0 hd.lt
 obtain ⟨hi, hhi⟩ := exE (v / 2)
 obtain ⟨lo, hlo⟩ := exE (v - v / 2)
 have q1 : (v : Int).tdiv 2 = (hi : Int) := by rw [Int.tdiv_eq_ediv_of_nonneg (by omega)]; omega
 have q0 : (v : Int) / 2 = (hi : Int) := by omega
 have q2 : IntKind.i64.wrap (hi : Int) = (hi : Int) := by rw [IntKind.wrap_i64]; omega
 have q3 : (v : Int) - (hi : Int) = (lo : Int) := by omega
 have q4 : IntKind.i64.wrap (lo : Int) = (lo : Int) := by rw [IntKind.wrap_i64]; omega
 have q5 : IntKind.i64.wrap ((v : Int) - (hi : Int)) = (lo : Int) := by rw [q3, q4]
 obtain ⟨W1, hW1⟩ := exE (W0.alloc (.cells #[.pointer (some ⟨b, 0, none⟩), .pointer (some ⟨d, 0, none⟩), .int .i64 (hi : Int), .int .i64 (lo : Int)] 87))
 obtain ⟨G, hG⟩ := exE (W0.heap.size)
 have hB1 := blA hW1
 have hQ1 : W1.rowIs G 87 4 (quad (.pointer (some ⟨b, 0, none⟩)) (.pointer (some ⟨d, 0, none⟩)) (.int .i64 (hi : Int)) (.int .i64 (lo : Int))) := by rw [hW1, hG]; exact quad_new W0 _ _ _ _ _
 have hQR : W1.rowIs R 87 4 (quad (.pointer none) (.pointer none) (.int .i64 0) (.int .i64 0)) := hQ0.of_block (hB1.block R hQ0.lt)
 have hGR : G ≠ R := by have := hQ0.lt; omega
 have HRW : Hid (w.heap.size <= R) := by unfold Hid; omega
 have HFI := hid (dfield_any d b (N : Int) r s W0 hd0)
 have hd1 := hd0.below hB1 hd0.lt
 have hb01 : Below w.heap.size w W1 := hB0.trans (hB1.mono hB0.size)
 have HSZ : Hid (∀ W, Below W1.heap.size W1 W -> Calls Tryz.prog 106 #[.pointer (some ⟨d, 0, none⟩)] W fun e w' => e = .returned (.int .i64 (N : Int)) /\ Below W1.heap.size W1 w') := fun W hW => by
  refine (size_any d b (N : Int) r s W (hd1.below hW hd1.lt)).mono ?_
  rintro e w' ⟨rfl, rfl⟩
  exact ⟨rfl, hW⟩
 obtain ⟨X, hX⟩ := exE (2 ^ lo)
 have HWI : Hid (∀ W, Below W1.heap.size W1 W -> Calls Tryz.prog 105 #[.agg #[.pointer (some ⟨b, 0, none⟩), .pointer (some ⟨d, 0, none⟩), .int .i64 (hi : Int), .int .i64 (lo : Int)]] W fun e w' => e = .returned (.int .i64 (X : Int)) /\ Below W1.heap.size W1 w') := fun W hW => by
  rw [hX]
  refine (wide_any _ _ _ lo W (by omega)).mono ?_
  rintro e w' ⟨rfl, h⟩
  exact ⟨rfl, hW.trans (h.mono hW.size)⟩
 have HK : Hid (∀ W, Below W1.heap.size W1 W -> W.cell? ⟨G, 0, none⟩ = some (.pointer (some ⟨b, 0, none⟩)) /\ W.cell? ⟨G, 1, none⟩ = some (.pointer (some ⟨d, 0, none⟩)) /\ W.cell? ⟨G, 2, none⟩ = some (.int .i64 (hi : Int)) /\ W.cell? ⟨G, 3, none⟩ = some (.int .i64 (lo : Int))) := fun W hW => by
  have h := hQ1.of_block (hW.block G hQ1.lt)
  exact ⟨h.cell (i := 0) (by omega), h.cell (i := 1) (by omega), h.cell (i := 2) (by omega), h.cell (i := 3) (by omega)⟩
 have HRR : Hid (∀ W, Below W1.heap.size W1 W -> W.rowIs R 87 4 (quad (.pointer none) (.pointer none) (.int .i64 0) (.int .i64 0))) := fun W hW => hQR.of_block (hW.block R hQR.lt)
 have n0 : (N : Int).tdiv 2 = ((N / 2 : Nat) : Int) := by rw [Int.tdiv_eq_ediv_of_nonneg (by omega)]; omega
 have n1 : (N : Int) / 2 = ((N / 2 : Nat) : Int) := by omega
 have n2 : IntKind.i64.wrap ((N / 2 : Nat) : Int) = ((N / 2 : Nat) : Int) := by rw [IntKind.wrap_i64]; omega
 have HSV : Hid (shV b d v = .agg #[.pointer (some ⟨b, 0, none⟩), .pointer (some ⟨d, 0, none⟩), .int .i64 (hi : Int), .int .i64 (lo : Int)]) := by unfold Hid shV; rw [hhi, hlo]
 rw [HSV.out, <- hlo, <- hX]
 have HB01 := hid hb01
 generalize N / 2 = H at *
 have hdw : Below W1.heap.size W1 W1.drew := (Below.refl _ _).drew
 clear hd hd0 hd1 hQ0 hQ1 hQR hB0 hB1 hb01 hhi hlo hX
 go_enter Tryz.func52, Tryz.ntmps52
 go_wp2_with fail
 rw [<- hW0, <- hR]
 have HW1 := hid hW1
 have HG := hid hG
 clear hW0 hW1 hG hR
 refine HFI.out.mono ?_
 rintro e w1 ⟨rfl, hw1⟩
 have hw1' := hw1.symm
 subst hw1'
 clear hw1
 go_wp2_with fail
 rw [<- HG.out, <- HW1.out]
 clear HW1 HG
 have HFA : Hid (∀ W, Below W1.heap.size W1 W -> (W.cell? ⟨G, 0, none⟩ = some (.pointer (some ⟨b, 0, none⟩)) /\ W.cell? ⟨G, 1, none⟩ = some (.pointer (some ⟨d, 0, none⟩)) /\ W.cell? ⟨G, 2, none⟩ = some (.int .i64 (hi : Int)) /\ W.cell? ⟨G, 3, none⟩ = some (.int .i64 (lo : Int))) /\ (W.cell? ⟨R, 0, none⟩ = some (.pointer none) /\ W.cell? ⟨R, 1, none⟩ = some (.pointer none) /\ W.cell? ⟨R, 2, none⟩ = some (.int .i64 0) /\ W.cell? ⟨R, 3, none⟩ = some (.int .i64 0)) /\ (W.frozen? ⟨R, 0, none⟩ = false /\ W.frozen? ⟨R, 1, none⟩ = false /\ W.frozen? ⟨R, 2, none⟩ = false /\ W.frozen? ⟨R, 3, none⟩ = false)) := fun W hW =>
  ⟨HK.out W hW, ⟨(HRR.out W hW).cell (i := 0) (by omega), (HRR.out W hW).cell (i := 1) (by omega), (HRR.out W hW).cell (i := 2) (by omega), (HRR.out W hW).cell (i := 3) (by omega)⟩, (HRR.out W hW).frozen 0, (HRR.out W hW).frozen 1, (HRR.out W hW).frozen 2, (HRR.out W hW).frozen 3⟩
 obtain ⟨⟨g0, g1, g2, g3⟩, ⟨r0, r1, r2, r3⟩, u0, u1, u2, u3⟩ := HFA.out _ hdw
 go_region_with (first
   | (go_at_call 106; refine (HSZ.out _ (by assumption)).mono ?_; rintro e w' ⟨rfl, hb'⟩; obtain ⟨⟨g0, g1, g2, g3⟩, ⟨r0, r1, r2, r3⟩, u0, u1, u2, u3⟩ := HFA.out _ hb')
   | (go_at_call 105; refine (HWI.out _ (by assumption)).mono ?_; rintro e w' ⟨rfl, hb'⟩; obtain ⟨⟨g0, g1, g2, g3⟩, ⟨r0, r1, r2, r3⟩, u0, u1, u2, u3⟩ := HFA.out _ hb'))
 all_goals
  go_wp2_with fail
  refine bodyPost_ret (results_ct rfl _ _ R 87 #[.pointer (some ⟨b, 0, none⟩), .pointer (some ⟨d, 0, none⟩), .int .i64 (hi : Int), .int .i64 (lo : Int)] (0, 0) _ rfl (quad_arr (quad_set (HRR.out _ (by assumption)) _ _ _ _)) Tryz.underlying87 rfl (by kernel_rfl)) rfl ?_
  exact ⟨rfl, ((((HB01.out.trans ((by assumption : Below W1.heap.size W1 _).mono HB01.out.size)).setCell (p := ⟨R, 0, none⟩) HRW.out _).setCell (p := ⟨R, 1, none⟩) HRW.out _).setCell (p := ⟨R, 2, none⟩) HRW.out _).setCell (p := ⟨R, 3, none⟩) HRW.out _⟩
end Go.Proofs.YtlhjifpomchnfaaGreatDoor
