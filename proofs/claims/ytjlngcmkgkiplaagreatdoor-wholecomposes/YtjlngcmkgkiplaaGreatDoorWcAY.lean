
import Derived.Test.YtjlngcmkgkiplaaGreatDoorWcAQ
import Derived.Test.YtjlngcmkgkiplaaGreatDoorWcAX
import Derived.Test.YtjlngcmkgkiplaaGreatDoorWcAN
import Derived.Test.YtjlngcmkgkiplaaGreatDoorWcAU
import Derived.Test.YtjlngcmkgkiplaaGreatDoorDoms
set_option maxRecDepth 1000000
set_option maxHeartbeats 8000000
namespace Go.Proofs.YtjlngcmkgkiplaaGreatDoor
open Go.RowKit Go.Maps
theorem zat_memR {l : List Int} {P : Int -> Prop} (h0 : P 0) (h : ∀ x, x ∈ l -> P x) (j : Nat) : P (zat l j) := by
 by_cases hj : j < l.length
 ·rw [zat_getR l j hj]; exact h _ (List.getElem_mem hj)
 ·have : zat l j = 0 := by simp [zat, List.getElem?_eq_none (Nat.not_lt.1 hj)]
  rw [this]; exact h0
def cmz (q n : Nat) (e t : Int) (L : List InsZ) (size out : Int) (r r' : List Int) (z z' x y : Int) : List Int :=
 ls (fun k => zat (rls q L size out r r') k * ivz q n e t (rkd L.length k).toNat % (q : Int)) (L.length + 26) ++ [pasz q r x y z z' * ivz q n e t 0 % (q : Int), (z - 1) % (q : Int) * ivz q n e t 2 % (q : Int)]
def rpl (F : Nat -> Int) (l : List Int) (k : Nat) : List Int := ls (fun j => if j < k then F j else zat l j) l.length
theorem rpl_len (F : Nat -> Int) (l : List Int) (k : Nat) : (rpl F l k).length = l.length := ls_len _ _
theorem rpl_zero (F : Nat -> Int) (l : List Int) : rpl F l 0 = l := by
 apply List.ext_getElem
 ·simp [rpl, ls]
 ·intro y h1 h2
  simp [rpl, ls, zat, h2]
theorem rpl_at (F : Nat -> Int) {l : List Int} {k : Nat} (h : k < l.length) : zat (rpl F l k) k = zat l k := by
 unfold rpl
 rw [ls_at _ _ _ h, if_neg (by omega)]
theorem rpl_set (F : Nat -> Int) {l : List Int} {k : Nat} (h : k < l.length) : (rpl F l k).set k (F k) = rpl F l (k + 1) := by
 apply List.ext_getElem
 ·simp [rpl, ls]
 ·intro y h1 h2
  have hy : y < l.length := by simpa [rpl, ls] using h1
  by_cases e : y = k
  ·subst e; simp [rpl, ls]
  ·rw [List.getElem_set_ne (fun h => e h.symm)]
   simp only [rpl, ls, List.getElem_map, List.getElem_range]
   by_cases c : y < k
   ·rw [if_pos c, if_pos (by omega)]
   ·rw [if_neg c, if_neg (by omega)]
theorem rpl_end (F : Nat -> Int) (l : List Int) : rpl F l l.length = ls F l.length := by
 unfold rpl
 unfold ls
 apply List.map_congr_left
 intro y hy
 rw [if_pos (List.mem_range.1 hy)]
theorem ow_app {w W : World} {l m : List Int} {v : Value} {G : Nat} (ho : W.ownsRow w.heap.size 3 1 v l.length (l.map (Value.int .i64))) (hb : Below w.heap.size w W) (hG : W.heap[G]? = some (.cells (m.map (Value.int .i64)).toArray 3 (0, 0))) (hl : l.length + m.length <= 17592186044416) :
  ∃ v' W', (Builtin.append_ #[26, 26] 26 #[v, .slice (some ⟨G, 0, none⟩) m.length m.length]).run Tryz.prog W = .ok v' W' /\ W'.ownsRow w.heap.size 3 1 v' (l ++ m).length ((l ++ m).map (Value.int .i64)) /\ Below w.heap.size w W' := by
 obtain ⟨i0, hi0, hz0, hz1, hz2⟩ := info_parts Tryz.infoInt
 obtain ⟨v', W', hrun, hown, hgrow, _, _⟩ := run_append_own_at W w.heap.size 26 26 3 i0 (.int .i64 0) 1 8 Tryz.underlying26 hi0 hz0 hz1 hz2 rfl (by decide) v l.length (l.map (Value.int .i64)) ho ⟨G, 0, none⟩ m.length m.length (m.map (Value.int .i64)) (by simp) (by
  intro j u hj
  have hadd : (⟨G, 0, none⟩ : Addr).add j = ⟨G, j, none⟩ := by unfold Addr.add; split <;> simp_all
  rw [hadd]
  simp only [World.cell?, hG]
  simpa using hj) (by intro u hu; obtain ⟨x, _, rfl⟩ := List.mem_map.1 hu; rfl) (by unfold maxLen; omega) (by omega) hb.size
 refine ⟨v', W', hrun, ?_, hb.grown hgrow hb.size (fun k hk => (World.ownsRow.lt ho k hk).1)⟩
 rw [List.length_append, List.map_append]
 exact hown
theorem composed_any (c b s H D q n k g rH rD : Nat) (size out : Int) (aL : Option Addr) (cL : Nat) (L : List InsZ) (B1 B2 G1 G2 base1 base2 : Nat) (K1 K2 : Nat -> Nat) (T1 T2 : List (List Int)) (i m : Nat) (x y a gg : Int) (w : World) (hpr : Num.Prime q) (h3 : 3 <= q) (h4 : q <= 2147483647) (hC : ClmAt w c b s H D q n g rH rD size out aL L.length cL) (hk : k <= 13) (hnk : n = 2 ^ k) (hn : n <= 512) (hrH : rH < q) (hrD : rD < q) (hg : g < q)
  (hl : L.length <= 64) (hl1 : 1 <= L.length) (hI : LstI w.heap.size w aL cL L) (hIB : InsB L) (hsz : I64 size) (hout : I64 out) (hm : m = 20 + L.length) (hT1 : Tbl base1 G1 K1 w T1) (hT2 : Tbl base2 G2 K2 w T2) (hl1' : T1.length = 8 * n) (hl2' : T2.length = 8 * n) (hw1 : ∀ j, j < 8 * n -> (rat T1 j).length = m) (hw2 : ∀ j, j < 8 * n -> (rat T2 j).length = 1) (hF1 : FitsR T1) (hF2 : FitsR T2)
  (hB1 : w.cell? ⟨B1, 0, none⟩ = some (.slice (some ⟨G1, 0, none⟩) (8 * n) (8 * n))) (hB2 : w.cell? ⟨B2, 0, none⟩ = some (.slice (some ⟨G2, 0, none⟩) (8 * n) (8 * n))) (hi : i < 8 * n) (hx : I64 x) (hy : I64 y) (ha : I64 a) :
  Calls Tryz.prog 25 #[.pointer (some ⟨c, 0, none⟩), .int .i64 (i : Int), .func (.func 44) #[] #[.pointer (some ⟨B1, 0, none⟩), .pointer (some ⟨B2, 0, none⟩)], .agg #[.int .i64 x, .int .i64 y, .int .i64 a, .int .i64 gg]] w fun e w' =>
   e = .returned (.int .i64 (evz q (cmz q n (Dom.pt q 1 rH (n - 1)) (Dom.pt q g rD i) L size out (rat T1 i) (rat T1 ((i + 8) % (8 * n))) (zat (rat T2 i) 0) (zat (rat T2 ((i + 8) % (8 * n))) 0) x y) a)) /\ Below w.heap.size w w' := by
 have hmx : Tryz.prog.follows .mixedOrders = true := by kernel_rfl
 have hcf := enters_fn Tryz.func44 (by kernel_rfl) (by kernel_rfl)
 obtain ⟨c0, c1⟩ := hC.lt
 have hn0 : 0 < n := by rw [hnk]; exact Nat.pow_pos (by decide)
 obtain ⟨i', hi'⟩ : ∃ i', i' = (i + 8) % (8 * n) := ⟨_, rfl⟩
 have hi'l : i' < 8 * n := by rw [hi']; exact Nat.mod_lt _ (by omega)
 have HWI : Hid (∀ j, j < 8 * n -> ∀ W, Below w.heap.size w W -> Calls Tryz.prog 44 #[.int .i64 (j : Int), .pointer (some ⟨B1, 0, none⟩), .pointer (some ⟨B2, 0, none⟩)] W fun e w' => e = .returned (.agg #[.slice (some ⟨K1 j, 0, none⟩) m m, .int .i64 (zat (rat T2 j) 0)]) /\ Below W.heap.size W w') := fun j hj W hW => by
  have h1 := hT1.out j (by omega)
  rw [hw1 j hj] at h1
  have h2 := hT2.out j (by omega)
  rw [hw2 j hj] at h2
  have h5 := (hT2.row j (by omega)).cells 0 (by rw [hw2 j hj]; omega)
  exact within1_any j (8 * n) B1 B2 G1 G2 (K1 j) (K2 j) m _ W ((hW.cell (p := ⟨B1, 0, none⟩) (heap_lt hB1)).trans hB1) ((hW.cell (p := ⟨B2, 0, none⟩) (heap_lt hB2)).trans hB2) hj ((hW.cell (p := ⟨G1, j, none⟩) hT1.lt).trans h1) ((hW.cell (p := ⟨G2, j, none⟩) hT2.lt).trans h2) ((hW.cell (p := ⟨K2 j, 0, none⟩) (heap_lt h5)).trans h5)
 have HCL : Hid (∀ W, Below w.heap.size w W -> ClmAt W c b s H D q n g rH rD size out aL L.length cL) := fun W hW => hC.below hW c0 c1.1 c1.2.1 c1.2.2
 have HAH : Hid (∀ W, Below w.heap.size w W -> Calls Tryz.prog 45 #[.pointer (some ⟨c, 0, none⟩), .int .i64 (i : Int)] W fun e w' => e = .returned (.int .i64 (i' : Int)) /\ w' = W) := fun W hW => by rw [hi']; exact ahead_any c b s H D q n g rH rD size out aL L.length cL i W (HCL.out W hW) hn0 hn hi
 have HPT : Hid (∀ W, Below w.heap.size w W -> Calls Tryz.prog 47 #[.pointer (some ⟨D, 0, none⟩), .int .i64 (i : Int)] W fun e w' => e = .returned (.int .i64 (Dom.pt q g rD i)) /\ w' = W.drew) := fun W hW => by
  have e8 : 8 * n = 2 ^ (k + 3) := by rw [hnk, Nat.pow_add]; omega
  have h0 := point_any q b D (k + 3) (rD : Int) (g : Int) (i : Int) W hpr h3 h4 (HCL.out W hW).p (by rw [<- e8]; exact (HCL.out W hW).dD) (by omega) (by omega) (by omega) (by omega) (by omega)
  rw [<- e8, <- Int.natCast_emod, Int.toNat_natCast, Nat.mod_eq_of_lt hi] at h0
  exact h0
 obtain ⟨t, ht⟩ := exE (Dom.pt q (g : Int) (rD : Int) i)
 have htb : I64 t := by rw [ht]; have := pt_bd h3 (g : Int) (rD : Int) i; unfold I64; omega
 have HIN : Hid (∀ W, Below w.heap.size w W -> Calls Tryz.prog 46 #[.pointer (some ⟨c, 0, none⟩), .int .i64 t] W fun e w' => e = .returned (.agg (an 4 (ivz q n (Dom.pt q 1 rH (n - 1)) t))) /\ Below W.heap.size W w') := fun W hW => inverses_any c b s H D q n k g rH rD size out t aL L.length cL W hpr h3 h4 (HCL.out W hW) (by omega) hnk hrH htb
 obtain ⟨r, hr⟩ := exE (rat T1 i)
 obtain ⟨r', hr'⟩ : ∃ r', r' = rat T1 i' := ⟨_, rfl⟩
 obtain ⟨z, hz⟩ := exE (zat (rat T2 i) 0)
 obtain ⟨z', hz'⟩ : ∃ z', z' = zat (rat T2 i') 0 := ⟨_, rfl⟩
 have hzb : I64 z := by rw [hz]; exact Fits.all (hF2 i (by omega)).1 0
 have hzb' : I64 z' := by rw [hz']; exact Fits.all (hF2 i' (by omega)).1 0
 have hfr : Fits r := by rw [hr]; exact (hF1 i (by omega)).1
 have hfr' : Fits r' := by rw [hr']; exact (hF1 i' (by omega)).1
 have hrl : r.length = m := by rw [hr]; exact hw1 i hi
 have hrl' : r'.length = m := by rw [hr']; exact hw1 i' hi'l
 obtain ⟨P, hP⟩ := exE (K1 i)
 obtain ⟨P', hP'⟩ : ∃ P', P' = K1 i' := ⟨_, rfl⟩
 have HRB : Hid (∀ W, Below w.heap.size w W -> RowB W.heap.size W (some ⟨P, 0, none⟩) r /\ RowB W.heap.size W (some ⟨P', 0, none⟩) r') := fun W hW => by
  have q1 := ((hT1.row i (by omega)).lst (n0 := w.heap.size) (hT1.row i (by omega)).lt).row
  have q2 := ((hT1.row i' (by omega)).lst (n0 := w.heap.size) (hT1.row i' (by omega)).lt).row
  rw [hr, hr', hP, hP']
  exact ⟨(q1.below hW).mono hW.size, (q2.below hW).mono hW.size⟩
 have HW1 := hid (HWI.out i hi)
 have HW2 := hid (HWI.out i' hi'l)
 rw [<- hz, <- hP] at HW1
 rw [<- hz', <- hP'] at HW2
 rw [<- ht] at HPT
 rw [<- hi', <- hr, <- hr', <- hz, <- hz', <- ht]
 obtain ⟨V, hV⟩ := exE (ivz q n (Dom.pt q 1 rH (n - 1)) t)
 rw [<- hV, show an 4 V = #[.int .i64 (V 0), .int .i64 (V 1), .int .i64 (V 2), .int .i64 (V 3)] from rfl] at HIN
 have HVF : Hid (VF q L size out r r') := ⟨h3, h4, by omega, by omega, fun j => Fits.all hfr j, fun j => Fits.all hfr' j, hIB, by omega, hl1, hsz, hout⟩
 have HSA : Hid (∀ W, Below w.heap.size w W -> Calls Tryz.prog 48 #[.pointer (some ⟨b, 0, none⟩), .agg #[.int .i64 size, .slice aL L.length cL], .int .i64 out, .slice (some ⟨P, 0, none⟩) m m, .slice (some ⟨P', 0, none⟩) m m] W fun e w' => ∃ v, e = .returned v /\ w'.ownsRow W.heap.size 3 1 v (rls q L size out r r').length ((rls q L size out r r').map (Value.int .i64)) /\ Below W.heap.size W w') := fun W hW => by
  have h0 := psaid_any q b L size out r r' aL cL (some ⟨P, 0, none⟩) m (some ⟨P', 0, none⟩) m W HVF.out (HCL.out W hW).p ((hI.below hW).mono hW.size) (HRB.out W hW).1 (HRB.out W hW).2
  rw [hrl, hrl'] at h0
  exact h0
 have HPA : Hid (∀ W, Below w.heap.size w W -> Calls Tryz.prog 51 #[.pointer (some ⟨c, 0, none⟩), .agg #[.slice (some ⟨P, 0, none⟩) m m, .int .i64 z], .agg #[.slice (some ⟨P', 0, none⟩) m m, .int .i64 z'], .agg #[.int .i64 x, .int .i64 y, .int .i64 a, .int .i64 gg]] W fun e w' => e = .returned (.int .i64 (pasz q r x y z z')) /\ Below W.heap.size W w') := fun W hW => by
  have h0 := passes_any c b s H D q n g rH rD size out aL L.length cL r (some ⟨P, 0, none⟩) m (.slice (some ⟨P', 0, none⟩) m m) z z' x y a gg W h3 h4 (HCL.out W hW) (HRB.out W hW).1 hfr (by omega) (by omega) hx hy hzb hzb' ⟨_, _, _, rfl⟩
  rw [hrl] at h0
  exact h0
 have HRO : Hid (∀ (kk : Nat) W, Calls Tryz.prog 50 #[.agg #[.int .i64 size, .slice aL L.length cL], .int .i64 (kk : Int)] W fun e w' => e = .returned (.int .i64 (rkd L.length kk)) /\ Below W.heap.size W w') := fun kk W => prowsOf_any size aL L.length cL kk W (by omega)
 obtain ⟨R, hR⟩ := exE (evz q (cmz q n (Dom.pt q 1 rH (n - 1)) t L size out r r' z z' x y) a)
 have HR : Hid (R = evz q (ls (fun k => zat (rls q L size out r r') k * V (rkd L.length k).toNat % (q : Int)) (L.length + 26) ++ [pasz q r x y z z' * V 0 % (q : Int), (z - 1) % (q : Int) * V 2 % (q : Int)]) a) := by unfold Hid; rw [hR, hV]; rfl
 rw [<- hR]
 obtain ⟨nL, hnl⟩ := exE (L.length)
 have HNL := hid hnl
 rw [<- hnl] at HCL HSA HRO hl
 have HVB : Hid (∀ j, I64 (V j)) := fun j => by
  rw [hV]
  have e1 := fun a => emod_bounds a q h3
  have e2 := fun a => invn_lt q a h3
  unfold ivz I64
  repeat' split
  ·have := e2 ((((powz q t (n : Int) : Nat) : Int) - 1) % (q : Int)); omega
  ·have := e1 ((invn q ((((powz q t (n : Int) : Nat) : Int) - 1) % (q : Int)) : Int) * ((t - Dom.pt q 1 (rH : Int) (n - 1)) % (q : Int))); omega
  ·have := e2 ((t - 1) % (q : Int)); omega
  ·have := e2 ((t - Dom.pt q 1 (rH : Int) (n - 1)) % (q : Int)); omega
 obtain ⟨W0, hW0⟩ := exE (w.alloc (.cells #[.int .i64 x, .int .i64 y, .int .i64 a, .int .i64 gg] 62))
 have hb0 := blA hW0
 have hN0 := haA hW0
 have HB0 := hid hb0
 have HN0 := hid hN0
 have HXY : Hid (I64 z /\ I64 a) := ⟨hzb, ha⟩
 have HM := hid hm
 clear hm
 clear hb0 hN0 hC hT1 hT2 hw1 hw2 hF1 hF2 hB1 hB2 HWI hi' hr hr' hz hz' hP hP' ht hV hR hnl hfr hfr' hrl hrl' hI hIB hsz hout hl1 hl1' hl2' hnk hzb hzb' htb hx hy ha HVF
 go_enter Tryz.func25, Tryz.ntmps25
 go_wp2_with fail
 obtain ⟨Nb, hNb⟩ := exE (w.heap.size)
 rw [<- hW0, <- hNb]
 rw [<- hNb] at HN0
 have HNBE := hid hNb
 clear hW0 hNb
 refine (HW1.out W0 HB0.out).mono ?_
 rintro e w1 ⟨rfl, hb1⟩
 have HB1 := hid (HB0.out.trans (hb1.mono HB0.out.size))
 have HN1 := hid ((hb1.block Nb (Array.getElem?_eq_some_iff.1 HN0.out).1).trans HN0.out)
 clear hb1 HW1 HB0 HN0
 go_wp2_with fail
 refine (HAH.out w1 HB1.out).mono ?_
 rintro e w2 ⟨rfl, hw2⟩
 have hw2' := hw2.symm
 subst hw2'
 clear hw2 HAH
 go_wp2_with fail
 refine (HW2.out w1 HB1.out).mono ?_
 rintro e w2 ⟨rfl, hb2⟩
 have HB2 := hid (HB1.out.trans (hb2.mono HB1.out.size))
 have HN2 := hid ((hb2.block Nb (Array.getElem?_eq_some_iff.1 HN1.out).1).trans HN1.out)
 clear hb2 HW2 HB1 HN1
 have k6 := (HCL.out w2 HB2.out).wd
 have hcl2 : c < w2.heap.size := World.block_lt_of_cell? _ _ k6
 obtain ⟨V1, hV1⟩ := exE (w2.alloc (.cells #[.slice (some ⟨P, 0, none⟩) m m, .int .i64 z] 90))
 obtain ⟨W3, hW3⟩ := exE (V1.alloc (.cells #[.slice (some ⟨P', 0, none⟩) m m, .int .i64 z'] 90))
 have hbv := blA hV1
 have hb3 := blA hW3
 have hsv : V1.heap.size = w2.heap.size + 1 := by rw [hV1]; simp
 have hA3 : W3.heap[w2.heap.size]? = some (.cells #[.slice (some ⟨P, 0, none⟩) m m, .int .i64 z] 90 (0, 0)) := (hb3.block _ (by omega)).trans (by rw [hV1]; exact heap_alloc_new w2 _)
 have hB3 : W3.heap[w2.heap.size + 1]? = some (.cells #[.slice (some ⟨P', 0, none⟩) m m, .int .i64 z'] 90 (0, 0)) := by rw [hW3, <- hsv]; exact heap_alloc_new V1 _
 have hb23 := hbv.trans (hb3.mono hbv.size)
 have HB3 := hid (HB2.out.trans (hb23.mono HB2.out.size))
 have HN3 := hid ((hb23.block Nb (Array.getElem?_eq_some_iff.1 HN2.out).1).trans HN2.out)
 obtain ⟨A, hA⟩ := exE (w2.heap.size)
 obtain ⟨B, hB⟩ := exE (w2.heap.size + 1)
 rw [<- hA] at hA3
 rw [<- hB] at hB3
 have HA3 := hid hA3
 have HBB3 := hid hB3
 rw [hV1] at hW3
 clear hbv hb3 hsv hA3 hB3 hb23 HB2 HN2 hV1
 go_wp2_with fail
 rw [<- hW3, <- hB, <- hA]
 clear hW3 hA hB k6 hcl2
 refine (HPT.out W3 HB3.out).mono ?_
 rintro e w4 ⟨rfl, hw4⟩
 subst hw4
 have HB4 := hid HB3.out.drew
 have HA4 : Hid (W3.drew.heap[A]? = some (.cells #[.slice (some ⟨P, 0, none⟩) m m, .int .i64 z] 90 (0, 0))) := HA3
 have HBB4 : Hid (W3.drew.heap[B]? = some (.cells #[.slice (some ⟨P', 0, none⟩) m m, .int .i64 z'] 90 (0, 0))) := HBB3
 have HN4 : Hid (W3.drew.heap[Nb]? = some (.cells #[.int .i64 x, .int .i64 y, .int .i64 a, .int .i64 gg] 62 (0, 0))) := HN3
 clear HA3 HBB3 HN3 HB3 HPT
 generalize W3.drew = w4 at *
 go_wp2_with fail
 refine (HIN.out w4 HB4.out).mono ?_
 rintro e w5 ⟨rfl, hb5⟩
 have HB5 := hid (HB4.out.trans (hb5.mono HB4.out.size))
 have HA5 := hid ((hb5.block A (Array.getElem?_eq_some_iff.1 HA4.out).1).trans HA4.out)
 have HBB5 := hid ((hb5.block B (Array.getElem?_eq_some_iff.1 HBB4.out).1).trans HBB4.out)
 have HN5 := hid ((hb5.block Nb (Array.getElem?_eq_some_iff.1 HN4.out).1).trans HN4.out)
 clear hb5 HA4 HBB4 HN4 HB4 HIN
 obtain ⟨W6, hW6⟩ := exE (w5.alloc (.cells #[.int .i64 (V 0), .int .i64 (V 1), .int .i64 (V 2), .int .i64 (V 3)] 91))
 have hb6 := blA hW6
 have hO6 := haA hW6
 have HB6 := hid (HB5.out.trans (hb6.mono HB5.out.size))
 have HA6 := hid ((hb6.block A (Array.getElem?_eq_some_iff.1 HA5.out).1).trans HA5.out)
 have HBB6 := hid ((hb6.block B (Array.getElem?_eq_some_iff.1 HBB5.out).1).trans HBB5.out)
 have HN6 := hid ((hb6.block Nb (Array.getElem?_eq_some_iff.1 HN5.out).1).trans HN5.out)
 obtain ⟨O, hO⟩ := exE (w5.heap.size)
 rw [<- hO] at hO6
 have HO6 := hid hO6
 clear hb6 hO6 HA5 HBB5 HN5 HB5
 go_wp2_with fail
 rw [<- hW6, <- hO]
 clear hW6 hO
 have HKS : Hid (∀ W, Below W6.heap.size W6 W -> W.cell? ⟨c, 0, none⟩ = some (.pointer (some ⟨b, 0, none⟩)) /\ W.cell? ⟨c, 2, none⟩ = some (.int .i64 size) /\ W.cell? ⟨c, 3, none⟩ = some (.slice aL nL cL) /\ W.cell? ⟨c, 4, none⟩ = some (.int .i64 out) /\ W.cell? ⟨A, 0, none⟩ = some (.slice (some ⟨P, 0, none⟩) m m) /\ W.cell? ⟨B, 0, none⟩ = some (.slice (some ⟨P', 0, none⟩) m m)) := fun W hW => by
  have hc := HCL.out W (HB6.out.trans (hW.mono HB6.out.size))
  have e1 := (hW.block A (Array.getElem?_eq_some_iff.1 HA6.out).1).trans HA6.out
  have e2 := (hW.block B (Array.getElem?_eq_some_iff.1 HBB6.out).1).trans HBB6.out
  exact ⟨hc.f, hc.sz, hc.ls, hc.out, by simp [World.cell?, e1], by simp [World.cell?, e2]⟩
 go_wp2_with fail
 refine wp_region_held_drew (S := fun W => W.cell? ⟨c, 0, none⟩ = some (.pointer (some ⟨b, 0, none⟩)) /\ W.cell? ⟨c, 2, none⟩ = some (.int .i64 size) /\ W.cell? ⟨c, 3, none⟩ = some (.slice aL nL cL) /\ W.cell? ⟨c, 4, none⟩ = some (.int .i64 out) /\ W.cell? ⟨A, 0, none⟩ = some (.slice (some ⟨P, 0, none⟩) m m) /\ W.cell? ⟨B, 0, none⟩ = some (.slice (some ⟨P', 0, none⟩) m m)) (by kernel_rfl) (HKS.out W6.drew (Below.refl _ _).drew) (fun hHeld => ?_)
 refine tkU 0 (.pointer (some ⟨c, 0, none⟩)) rfl (fun W hC => by go_simp) hHeld ?_
 simp only [Act.put, aS0, aS1, aS2]
 refine tkU 1 (.pointer (some ⟨c, 0, none⟩)) rfl (fun W hC => by go_simp) hHeld ?_
 simp only [Act.put, aS0, aS1, aS2]
 refine tkU 2 (.pointer (some ⟨c, 0, none⟩)) rfl (fun W hC => by go_simp) hHeld ?_
 simp only [Act.put, aS0, aS1, aS2]
 refine tkU 3 (.pointer (some ⟨b, 0, none⟩)) rfl (fun W hC => by (obtain ⟨y0, y1, y2, y3, y4, y5⟩ := hC); go_simp) hHeld ?_
 simp only [Act.put, aS0, aS1, aS2]
 refine tkU 4 (.pointer (some ⟨c, 0, none⟩)) rfl (fun W hC => by go_simp) hHeld ?_
 simp only [Act.put, aS0, aS1, aS2]
 refine tkU 5 (.pointer (some ⟨c, 0, none⟩)) rfl (fun W hC => by go_simp) hHeld ?_
 simp only [Act.put, aS0, aS1, aS2]
 refine tkU 6 (.pointer (some ⟨c, 2, none⟩)) rfl (fun W hC => by go_simp) hHeld ?_
 simp only [Act.put, aS0, aS1, aS2]
 refine tkU 7 (.agg #[.int .i64 size, .slice aL nL cL]) rfl (fun W hC => by (obtain ⟨y0, y1, y2, y3, y4, y5⟩ := hC); go_simp) hHeld ?_
 simp only [Act.put, aS0, aS1, aS2]
 refine tkU 8 (.pointer (some ⟨c, 0, none⟩)) rfl (fun W hC => by go_simp) hHeld ?_
 simp only [Act.put, aS0, aS1, aS2]
 refine tkU 9 (.pointer (some ⟨c, 0, none⟩)) rfl (fun W hC => by go_simp) hHeld ?_
 simp only [Act.put, aS0, aS1, aS2]
 refine tkU 10 (.pointer (some ⟨c, 4, none⟩)) rfl (fun W hC => by go_simp) hHeld ?_
 simp only [Act.put, aS0, aS1, aS2]
 refine tkU 11 (.int .i64 out) rfl (fun W hC => by (obtain ⟨y0, y1, y2, y3, y4, y5⟩ := hC); go_simp) hHeld ?_
 simp only [Act.put, aS0, aS1, aS2]
 refine tkU 12 (.pointer (some ⟨A, 0, none⟩)) rfl (fun W hC => by go_simp) hHeld ?_
 simp only [Act.put, aS0, aS1, aS2]
 refine tkU 13 (.slice (some ⟨P, 0, none⟩) m m) rfl (fun W hC => by (obtain ⟨y0, y1, y2, y3, y4, y5⟩ := hC); go_simp) hHeld ?_
 simp only [Act.put, aS0, aS1, aS2]
 refine tkU 14 (.pointer (some ⟨B, 0, none⟩)) rfl (fun W hC => by go_simp) hHeld ?_
 simp only [Act.put, aS0, aS1, aS2]
 refine tkU 15 (.slice (some ⟨P', 0, none⟩) m m) rfl (fun W hC => by (obtain ⟨y0, y1, y2, y3, y4, y5⟩ := hC); go_simp) hHeld ?_
 simp only [Act.put, aS0, aS1, aS2]
 refine wpAnyH_ready (rs := [16]) (by kernel_rfl) (by simp) ?_
 refine AllReadyH.consU rfl (fun K' hK' => ?_) AllReadyH.nil
 go_simp
 refine (HSA.out W6.drew HB6.out.drew).mono ?_
 rintro e w7 ⟨v7, rfl, ho7, hb7⟩
 have hb7' : Below W6.heap.size W6 w7 := ⟨hb7.os, hb7.tape, hb7.output, hb7.size, hb7.block⟩
 have HB67 := hid hb7'
 have HO7 := hid ho7
 refine hK'.out _ _ (HKS.out w7 hb7') (fun hHeld => ?_)
 clear hK' K'
 refine tkU 17 (v7) rfl (fun W hC => by go_simp) hHeld ?_
 simp only [Act.put, aS0, aS1, aS2]
 refine wpAnyH_done (by kernel_rfl) ?_ _
 clear hHeld hb7 hb7' ho7 HSA
 obtain ⟨rl, hrl⟩ := exE (rls q L size out r r')
 rw [<- hrl] at HO7 HR
 have hrll : rl.length = nL + 26 := by rw [hrl, rls_len, HNL.out]
 have HRBD : Hid (∀ j, I64 (zat rl j)) := fun j => by
  have := zat_memR (P := fun x => 0 <= x /\ x < (q : Int)) (l := rl) (by omega) (fun x hx => by rw [hrl] at hx; exact rls_bd h3 L size out r r' x hx) j
  unfold I64; omega
 obtain ⟨S, cs, rfl, hOw⟩ := owI_of HO7.out (by omega)
 obtain ⟨F, hF⟩ : ∃ F : Nat -> Int, F = fun k => zat rl k * V (rkd nL k).toNat % (q : Int) := ⟨_, rfl⟩
 have HFE := hid hF
 obtain ⟨M, hM⟩ := exE (nL + 26)
 rw [hrll, <- hM]
 have HML := hid (hrll.trans hM.symm)
 have hM9 : M <= 90 := by omega
 have HOW0 : Hid (OwI W6.heap.size S cs w7 (rpl F rl 0)) := by unfold Hid; rw [rpl_zero]; exact hOw
 have HMNL := hid hM
 clear hrl hrll hOw hF HO7 hM
 go_wp2_with fail
 go_loopw [13, 14, 52] (fun _ _ kv wr => ∃ kk : Nat, kk <= M /\ kv = .int .i64 kk /\ Hid (OwI W6.heap.size S cs wr (rpl F rl kk)) /\ Hid (Below W6.heap.size W6 wr)) (fun _ _ kv _ => M - (intOf kv).toNat)
 case atStart => exact ⟨0, Nat.zero_le _, rfl, HOW0, HB67⟩
 case round =>
  obtain ⟨kk, hkM, rfl, HOW, HBK⟩ := hrel
  by_cases hlt : kk < M
  ·have hlt2 : (kk : Int) < (M : Int) := by omega
   have hks : IntKind.i64.wrap ((kk : Int) + 1) = (kk : Int) + 1 := by rw [IntKind.wrap_i64]; omega
   have hkl : kk < (rpl F rl kk).length := by rw [rpl_len, HML.out]; exact hlt
   have kS := HOW.out.row.cells kk hkl
   rw [rpl_at F (by rw [HML.out]; exact hlt)] at kS
   have fS' := HOW.out.row.soft kk
   have hSl := HOW.out.row.lt
   obtain ⟨kd, hkd⟩ : ∃ kd : Nat, rkd nL kk = (kd : Int) := Int.eq_ofNat_of_zero_le (by unfold rkd; repeat' split <;> omega)
   have hkd4 : kd < 4 := by
    have : rkd nL kk < 4 := by unfold rkd; repeat' split <;> omega
    omega
   have hkd5 : (kd : Int) < 4 := by omega
   have hFk : F kk = zat rl kk * V kd % (q : Int) := by rw [HFE.out]; simp only [hkd, Int.toNat_natCast]
   have HRK := hid (HRO.out kk)
   rw [hkd] at HRK
   have hik := HRBD.out kk
   have hvk := HVB.out kd
   have HMU := hid (fun W (h : W.cell? ⟨b, 0, none⟩ = some (.int .i64 q)) => mul_any q b (zat rl kk) (V kd) W h3 h4 h hik.1 hik.2 hvk.1 hvk.2)
   have HOK : Hid (W6.cell? ⟨O, kd, none⟩ = some (.int .i64 (V kd))) := by
    have : kd = 0 ∨ kd = 1 ∨ kd = 2 ∨ kd = 3 := by omega
    rcases this with rfl | rfl | rfl | rfl <;> simp [World.cell?, Hid, HO6.out]
   rw [<- hFk] at HMU
   have hOl : O < W6.heap.size := (Array.getElem?_eq_some_iff.1 HO6.out).1
   have HHL : Hid (∀ W, Below wr.heap.size wr W -> W.cell? ⟨c, 0, none⟩ = some (.pointer (some ⟨b, 0, none⟩)) /\ W.cell? ⟨c, 2, none⟩ = some (.int .i64 size) /\ W.cell? ⟨c, 3, none⟩ = some (.slice aL nL cL) /\ W.cell? ⟨O, kd, none⟩ = some (.int .i64 (V kd))) := fun W hW => by
    have hW6 := HBK.out.trans (hW.mono HBK.out.size)
    have hc := HKS.out W hW6
    exact ⟨hc.1, hc.2.1, hc.2.2.1, (hW6.cell (p := ⟨O, kd, none⟩) hOl).trans HOK.out⟩
   have HPB : Hid (∀ W, Below wr.heap.size wr W -> W.cell? ⟨b, 0, none⟩ = some (.int .i64 q)) := fun W hW => (HCL.out W (HB6.out.trans ((HBK.out.trans (hW.mono HBK.out.size)).mono HB6.out.size))).p
   have HNX : Hid (∀ W, Below wr.heap.size wr W -> OwI W6.heap.size S cs (W.setCell ⟨S, kk, none⟩ (.int .i64 (F kk))) (rpl F rl (kk + 1)) /\ Below W6.heap.size W6 (W.setCell ⟨S, kk, none⟩ (.int .i64 (F kk))) /\ W.cell? ⟨S, kk, none⟩ = some (.int .i64 (zat rl kk)) /\ W.frozen? ⟨S, kk, none⟩ = false) := fun W hW => by
    have h0 := HOW.out.below hW hSl
    refine ⟨?_, (HBK.out.trans (hW.mono HBK.out.size)).setCell (p := ⟨S, kk, none⟩) HOW.out.lo _, (hW.cell (p := ⟨S, kk, none⟩) hSl).trans kS, h0.row.soft kk⟩
    rw [<- rpl_set F (by rw [HML.out]; exact hlt)]
    exact h0.set hkl (F kk)
   have HSLO := hid HOW.out.lo
   generalize F kk = fk at *
   generalize V kd = vk at *
   generalize zat rl kk = ik at *
   clear hkd hik hvk hFk hkl HOW
   go_wp2_with fail
   refine wp_region_held_drew (S := fun W => W.cell? ⟨c, 0, none⟩ = some (.pointer (some ⟨b, 0, none⟩)) /\ W.cell? ⟨c, 2, none⟩ = some (.int .i64 size) /\ W.cell? ⟨c, 3, none⟩ = some (.slice aL nL cL) /\ W.cell? ⟨O, kd, none⟩ = some (.int .i64 vk)) (by kernel_rfl) (HHL.out wr.drew (Below.refl _ _).drew) (fun hHeld => ?_)
   refine tkU 0 (.slice (some ⟨S, 0, none⟩) M cs) rfl (fun W hC => by go_simp) hHeld ?_
   simp only [Act.put, aS0, aS1, aS2]
   refine tkU 1 (.int .i64 (kk : Int)) rfl (fun W hC => by go_simp) hHeld ?_
   simp only [Act.put, aS0, aS1, aS2]
   refine tkU 2 (.pointer (some ⟨c, 0, none⟩)) rfl (fun W hC => by go_simp) hHeld ?_
   simp only [Act.put, aS0, aS1, aS2]
   refine tkU 3 (.pointer (some ⟨c, 0, none⟩)) rfl (fun W hC => by go_simp) hHeld ?_
   simp only [Act.put, aS0, aS1, aS2]
   refine tkU 4 (.pointer (some ⟨c, 0, none⟩)) rfl (fun W hC => by go_simp) hHeld ?_
   simp only [Act.put, aS0, aS1, aS2]
   refine tkU 5 (.pointer (some ⟨b, 0, none⟩)) rfl (fun W hC => by (obtain ⟨y0, y1, y2, y3⟩ := hC); go_simp) hHeld ?_
   simp only [Act.put, aS0, aS1, aS2]
   refine tkU 6 (.int .i64 ik) rfl (fun W hC => by go_simp) hHeld ?_
   simp only [Act.put, aS0, aS1, aS2]
   refine tkU 7 (.pointer (some ⟨c, 0, none⟩)) rfl (fun W hC => by go_simp) hHeld ?_
   simp only [Act.put, aS0, aS1, aS2]
   refine tkU 8 (.pointer (some ⟨c, 0, none⟩)) rfl (fun W hC => by go_simp) hHeld ?_
   simp only [Act.put, aS0, aS1, aS2]
   refine tkU 9 (.pointer (some ⟨c, 2, none⟩)) rfl (fun W hC => by go_simp) hHeld ?_
   simp only [Act.put, aS0, aS1, aS2]
   refine tkU 10 (.agg #[.int .i64 size, .slice aL nL cL]) rfl (fun W hC => by (obtain ⟨y0, y1, y2, y3⟩ := hC); go_simp) hHeld ?_
   simp only [Act.put, aS0, aS1, aS2]
   refine tkU 11 (.int .i64 (kk : Int)) rfl (fun W hC => by go_simp) hHeld ?_
   simp only [Act.put, aS0, aS1, aS2]
   refine wpAnyH_ready (rs := [12]) (by kernel_rfl) (by simp) ?_
   refine AllReadyH.consU rfl (fun K' hK' => ?_) AllReadyH.nil
   go_simp
   refine (HRK.out wr.drew).mono ?_
   rintro e w8 ⟨rfl, hb8⟩
   have hb8' : Below wr.heap.size wr w8 := ⟨hb8.os, hb8.tape, hb8.output, hb8.size, hb8.block⟩
   have HB8 := hid hb8'
   refine hK'.out _ _ (HHL.out w8 hb8') (fun hHeld => ?_)
   clear hK' K'
   refine tkU 13 (.pointer (some ⟨O, kd, none⟩)) rfl (fun W hC => by go_simp) hHeld ?_
   simp only [Act.put, aS0, aS1, aS2]
   refine tkU 14 (.int .i64 vk) rfl (fun W hC => by (obtain ⟨y0, y1, y2, y3⟩ := hC); go_simp) hHeld ?_
   simp only [Act.put, aS0, aS1, aS2]
   refine wpAnyH_ready (rs := [15]) (by kernel_rfl) (by simp) ?_
   refine AllReadyH.consU rfl (fun K' hK' => ?_) AllReadyH.nil
   go_simp
   refine (HMU.out w8 (HPB.out w8 HB8.out)).mono ?_
   rintro e w9 ⟨rfl, rfl⟩
   refine hK'.out _ _ (HHL.out w9 HB8.out) (fun hHeld => ?_)
   clear hK' K'
   refine tkU 16 (.pointer (some ⟨S, kk, none⟩)) rfl (fun W hC => by go_simp) hHeld ?_
   simp only [Act.put, aS0, aS1, aS2]
   refine wpAnyH_ready (rs := [17]) (by kernel_rfl) (by simp) ?_
   refine AllReadyH.consU rfl (fun K' hK' => ?_) AllReadyH.nil
   obtain ⟨hO9, hB9, kS9, fS9⟩ := HNX.out w9 HB8.out
   have HO9 := hid hO9
   have HB9 := hid hB9
   clear hO9 hB9
   go_simp
   have hc := HKS.out _ HB9.out
   refine hK'.out _ _ ⟨hc.1, hc.2.1, hc.2.2.1, (HB9.out.cell (p := ⟨O, kd, none⟩) hOl).trans HOK.out⟩ (fun hHeld => ?_)
   clear hK' K' hHeld
   refine wpAnyH_done (by kernel_rfl) ?_ _
   go_wp2_with fail
   exact ⟨⟨kk + 1, by omega, by simp, HO9, HB9⟩, by simp only [intOf, Int.toNat_natCast]; omega⟩
  ·have hkE : kk = M := by omega
   subst hkE
   obtain ⟨v0, hv0⟩ := exE (V 0)
   obtain ⟨v2, hv2⟩ := exE (V 2)
   have HKT : Hid (∀ W, Below W6.heap.size W6 W -> W.cell? ⟨c, 0, none⟩ = some (.pointer (some ⟨b, 0, none⟩)) /\ W.cell? ⟨A, 0, none⟩ = some (.slice (some ⟨P, 0, none⟩) m m) /\ W.cell? ⟨A, 1, none⟩ = some (.int .i64 z) /\ W.cell? ⟨B, 0, none⟩ = some (.slice (some ⟨P', 0, none⟩) m m) /\ W.cell? ⟨B, 1, none⟩ = some (.int .i64 z') /\ W.cell? ⟨Nb, 0, none⟩ = some (.int .i64 x) /\ W.cell? ⟨Nb, 1, none⟩ = some (.int .i64 y) /\ W.cell? ⟨Nb, 2, none⟩ = some (.int .i64 a) /\ W.cell? ⟨Nb, 3, none⟩ = some (.int .i64 gg) /\ W.cell? ⟨O, 0, none⟩ = some (.int .i64 v0) /\ W.cell? ⟨O, 2, none⟩ = some (.int .i64 v2)) := fun W hW => by
    have hc := HCL.out W (HB6.out.trans (hW.mono HB6.out.size))
    have e1 := (hW.block A (Array.getElem?_eq_some_iff.1 HA6.out).1).trans HA6.out
    have e2 := (hW.block B (Array.getElem?_eq_some_iff.1 HBB6.out).1).trans HBB6.out
    have e3 := (hW.block Nb (Array.getElem?_eq_some_iff.1 HN6.out).1).trans HN6.out
    have e4 := (hW.block O (Array.getElem?_eq_some_iff.1 HO6.out).1).trans HO6.out
    rw [hv0, hv2]
    exact ⟨hc.f, by simp [World.cell?, e1], by simp [World.cell?, e1], by simp [World.cell?, e2], by simp [World.cell?, e2], by simp [World.cell?, e3], by simp [World.cell?, e3], by simp [World.cell?, e3], by simp [World.cell?, e3], by simp [World.cell?, e4], by simp [World.cell?, e4]⟩
   have HPB : Hid (∀ W, Below W6.heap.size W6 W -> W.cell? ⟨b, 0, none⟩ = some (.int .i64 q)) := fun W hW => (HCL.out W (HB6.out.trans (hW.mono HB6.out.size))).p
   have bp : 0 <= pasz q r x y z z' /\ pasz q r x y z z' < (q : Int) := emod_bounds _ q h3
   have bm := fun a => emod_bounds a q h3
   have bv0 := HVB.out 0
   have bv2 := HVB.out 2
   rw [<- hv0] at bv0
   rw [<- hv2] at bv2
   obtain ⟨pz, hpz⟩ := exE (pasz q r x y z z')
   rw [<- hpz] at HPA HR bp
   rw [<- hv0, <- hv2] at HR
   have HMP := hid (fun W (h : W.cell? ⟨b, 0, none⟩ = some (.int .i64 q)) => mul_any q b pz v0 W h3 h4 h (by omega) (by omega) bv0.1 bv0.2)
   have HSU := hid (fun W (h : W.cell? ⟨b, 0, none⟩ = some (.int .i64 q)) => sub_any q b z 1 W h3 h4 h HXY.out.1.1 HXY.out.1.2 (by omega) (by omega))
   have bs := bm (z - 1)
   have HMB := hid (fun W (h : W.cell? ⟨b, 0, none⟩ = some (.int .i64 q)) => mul_any q b ((z - 1) % (q : Int)) v2 W h3 h4 h (by omega) (by omega) bv2.1 bv2.2)
   have bpv := bm (pz * v0)
   have bbv := bm ((z - 1) % (q : Int) * v2)
   obtain ⟨pv, hpv⟩ := exE (pz * v0 % (q : Int))
   obtain ⟨bv, hbv⟩ := exE ((z - 1) % (q : Int) * v2 % (q : Int))
   rw [<- hpv] at HMP bpv HR
   rw [<- hbv] at HMB bbv HR
   have HFB : Hid ((∀ j, 0 <= F j /\ F j < (q : Int)) /\ (0 <= pv /\ pv < (q : Int)) /\ (0 <= bv /\ bv < (q : Int))) := ⟨fun j => by rw [HFE.out]; exact bm _, bpv, bbv⟩
   have HRE : Hid (rpl F rl kk = ls F kk) := by unfold Hid; rw [<- HML.out]; exact rpl_end F rl
   have HRR : Hid (R = evz q (rpl F rl kk ++ [pv, bv]) a) := by
    unfold Hid
    rw [HR.out, HRE.out, HFE.out, HMNL.out, HNL.out]
   have HQ := hid (And.intro h3 h4)
   generalize (z - 1) % (q : Int) = zs at *
   clear hpz hpv hbv hv0 hv2 bp bm bv0 bv2 bs bpv bbv HFE HR HVB HRBD HRO HKS h3 h4
   go_wp2_with fail
   refine wp_region_held_drew (S := fun W => W.cell? ⟨c, 0, none⟩ = some (.pointer (some ⟨b, 0, none⟩)) /\ W.cell? ⟨A, 0, none⟩ = some (.slice (some ⟨P, 0, none⟩) m m) /\ W.cell? ⟨A, 1, none⟩ = some (.int .i64 z) /\ W.cell? ⟨B, 0, none⟩ = some (.slice (some ⟨P', 0, none⟩) m m) /\ W.cell? ⟨B, 1, none⟩ = some (.int .i64 z') /\ W.cell? ⟨Nb, 0, none⟩ = some (.int .i64 x) /\ W.cell? ⟨Nb, 1, none⟩ = some (.int .i64 y) /\ W.cell? ⟨Nb, 2, none⟩ = some (.int .i64 a) /\ W.cell? ⟨Nb, 3, none⟩ = some (.int .i64 gg) /\ W.cell? ⟨O, 0, none⟩ = some (.int .i64 v0) /\ W.cell? ⟨O, 2, none⟩ = some (.int .i64 v2)) (by kernel_rfl) (HKT.out wr.drew HBK.out.drew) (fun hHeld => ?_)
   refine tkU 0 (.pointer (some ⟨c, 0, none⟩)) rfl (fun W hC => by go_simp) hHeld ?_
   simp only [Act.put, aS0, aS1, aS2]
   refine tkU 1 (.pointer (some ⟨c, 0, none⟩)) rfl (fun W hC => by go_simp) hHeld ?_
   simp only [Act.put, aS0, aS1, aS2]
   refine tkU 2 (.pointer (some ⟨c, 0, none⟩)) rfl (fun W hC => by go_simp) hHeld ?_
   simp only [Act.put, aS0, aS1, aS2]
   refine tkU 3 (.pointer (some ⟨b, 0, none⟩)) rfl (fun W hC => by (obtain ⟨y0, y1, y2, y3, y4, y5, y6, y7, y8, y9, y10⟩ := hC); go_simp) hHeld ?_
   simp only [Act.put, aS0, aS1, aS2]
   refine tkU 4 (.pointer (some ⟨c, 0, none⟩)) rfl (fun W hC => by go_simp) hHeld ?_
   simp only [Act.put, aS0, aS1, aS2]
   refine tkU 5 (.agg #[.slice (some ⟨P, 0, none⟩) m m, .int .i64 z]) rfl (fun W hC => by (obtain ⟨y0, y1, y2, y3, y4, y5, y6, y7, y8, y9, y10⟩ := hC); go_simp) hHeld ?_
   simp only [Act.put, aS0, aS1, aS2]
   refine tkU 6 (.agg #[.slice (some ⟨P', 0, none⟩) m m, .int .i64 z']) rfl (fun W hC => by (obtain ⟨y0, y1, y2, y3, y4, y5, y6, y7, y8, y9, y10⟩ := hC); go_simp) hHeld ?_
   simp only [Act.put, aS0, aS1, aS2]
   refine tkU 7 (.agg #[.int .i64 x, .int .i64 y, .int .i64 a, .int .i64 gg]) rfl (fun W hC => by (obtain ⟨y0, y1, y2, y3, y4, y5, y6, y7, y8, y9, y10⟩ := hC); go_simp) hHeld ?_
   simp only [Act.put, aS0, aS1, aS2]
   refine tkU 9 (.pointer (some ⟨O, 0, none⟩)) rfl (fun W hC => by go_simp) hHeld ?_
   simp only [Act.put, aS0, aS1, aS2]
   refine tkU 10 (.int .i64 v0) rfl (fun W hC => by (obtain ⟨y0, y1, y2, y3, y4, y5, y6, y7, y8, y9, y10⟩ := hC); go_simp) hHeld ?_
   simp only [Act.put, aS0, aS1, aS2]
   refine wpAnyH_ready (rs := [8]) (by kernel_rfl) (by simp) ?_
   refine AllReadyH.consU rfl (fun K' hK' => ?_) AllReadyH.nil
   go_simp
   refine (HPA.out wr.drew (HB6.out.trans (HBK.out.mono HB6.out.size)).drew).mono ?_
   rintro e w8 ⟨rfl, hb8⟩
   have hb8' : Below wr.heap.size wr w8 := ⟨hb8.os, hb8.tape, hb8.output, hb8.size, hb8.block⟩
   have HB8 := hid (HBK.out.trans (hb8'.mono HBK.out.size))
   have HO8 := hid (HOW.out.below hb8' HOW.out.row.lt)
   refine hK'.out _ _ (HKT.out w8 HB8.out) (fun hHeld => ?_)
   clear hK' K'
   refine wpAnyH_ready (rs := [11]) (by kernel_rfl) (by simp) ?_
   refine AllReadyH.consU rfl (fun K' hK' => ?_) AllReadyH.nil
   go_simp
   refine (HMP.out w8 (HPB.out w8 HB8.out)).mono ?_
   rintro e w9 ⟨rfl, hw9⟩
   refine hK'.out _ _ (by rw [hw9]; exact HKT.out w8 HB8.out) (fun hHeld => ?_)
   clear hK' K'
   refine tkU 12 (.int .i64 pv) rfl (fun W hC => by go_simp) hHeld ?_
   simp only [Act.put, aS0, aS1, aS2]
   refine wpAnyH_done (by kernel_rfl) ?_ _
   clear hHeld
   subst hw9
   clear hb8 hb8' HOW HBK HPA HMP
   go_wp2_with fail
   refine wp_region_held_drew (S := fun W => W.cell? ⟨c, 0, none⟩ = some (.pointer (some ⟨b, 0, none⟩)) /\ W.cell? ⟨A, 0, none⟩ = some (.slice (some ⟨P, 0, none⟩) m m) /\ W.cell? ⟨A, 1, none⟩ = some (.int .i64 z) /\ W.cell? ⟨B, 0, none⟩ = some (.slice (some ⟨P', 0, none⟩) m m) /\ W.cell? ⟨B, 1, none⟩ = some (.int .i64 z') /\ W.cell? ⟨Nb, 0, none⟩ = some (.int .i64 x) /\ W.cell? ⟨Nb, 1, none⟩ = some (.int .i64 y) /\ W.cell? ⟨Nb, 2, none⟩ = some (.int .i64 a) /\ W.cell? ⟨Nb, 3, none⟩ = some (.int .i64 gg) /\ W.cell? ⟨O, 0, none⟩ = some (.int .i64 v0) /\ W.cell? ⟨O, 2, none⟩ = some (.int .i64 v2)) (by kernel_rfl) (HKT.out w9.drew HB8.out.drew) (fun hHeld => ?_)
   refine tkU 0 (.pointer (some ⟨c, 0, none⟩)) rfl (fun W hC => by go_simp) hHeld ?_
   simp only [Act.put, aS0, aS1, aS2]
   refine tkU 1 (.pointer (some ⟨c, 0, none⟩)) rfl (fun W hC => by go_simp) hHeld ?_
   simp only [Act.put, aS0, aS1, aS2]
   refine tkU 2 (.pointer (some ⟨c, 0, none⟩)) rfl (fun W hC => by go_simp) hHeld ?_
   simp only [Act.put, aS0, aS1, aS2]
   refine tkU 3 (.pointer (some ⟨b, 0, none⟩)) rfl (fun W hC => by (obtain ⟨y0, y1, y2, y3, y4, y5, y6, y7, y8, y9, y10⟩ := hC); go_simp) hHeld ?_
   simp only [Act.put, aS0, aS1, aS2]
   refine tkU 4 (.pointer (some ⟨c, 0, none⟩)) rfl (fun W hC => by go_simp) hHeld ?_
   simp only [Act.put, aS0, aS1, aS2]
   refine tkU 5 (.pointer (some ⟨c, 0, none⟩)) rfl (fun W hC => by go_simp) hHeld ?_
   simp only [Act.put, aS0, aS1, aS2]
   refine tkU 6 (.pointer (some ⟨c, 0, none⟩)) rfl (fun W hC => by go_simp) hHeld ?_
   simp only [Act.put, aS0, aS1, aS2]
   refine tkU 7 (.pointer (some ⟨b, 0, none⟩)) rfl (fun W hC => by (obtain ⟨y0, y1, y2, y3, y4, y5, y6, y7, y8, y9, y10⟩ := hC); go_simp) hHeld ?_
   simp only [Act.put, aS0, aS1, aS2]
   refine tkU 8 (.pointer (some ⟨A, 1, none⟩)) rfl (fun W hC => by go_simp) hHeld ?_
   simp only [Act.put, aS0, aS1, aS2]
   refine tkU 9 (.int .i64 z) rfl (fun W hC => by (obtain ⟨y0, y1, y2, y3, y4, y5, y6, y7, y8, y9, y10⟩ := hC); go_simp) hHeld ?_
   simp only [Act.put, aS0, aS1, aS2]
   refine tkU 11 (.pointer (some ⟨O, 2, none⟩)) rfl (fun W hC => by go_simp) hHeld ?_
   simp only [Act.put, aS0, aS1, aS2]
   refine tkU 12 (.int .i64 v2) rfl (fun W hC => by (obtain ⟨y0, y1, y2, y3, y4, y5, y6, y7, y8, y9, y10⟩ := hC); go_simp) hHeld ?_
   simp only [Act.put, aS0, aS1, aS2]
   refine wpAnyH_ready (rs := [10]) (by kernel_rfl) (by simp) ?_
   refine AllReadyH.consU rfl (fun K' hK' => ?_) AllReadyH.nil
   go_simp
   refine (HSU.out w9.drew (HPB.out w9.drew HB8.out.drew)).mono ?_
   rintro e w10 ⟨rfl, hw10⟩
   refine hK'.out _ _ (by rw [hw10]; exact HKT.out w9.drew HB8.out.drew) (fun hHeld => ?_)
   clear hK' K'
   refine wpAnyH_ready (rs := [13]) (by kernel_rfl) (by simp) ?_
   refine AllReadyH.consU rfl (fun K' hK' => ?_) AllReadyH.nil
   go_simp
   refine (HMB.out w9.drew (HPB.out w9.drew HB8.out.drew)).mono ?_
   rintro e w11 ⟨rfl, hw11⟩
   have hw11' := hw11
   refine hK'.out _ _ (by rw [hw11']; exact HKT.out w9.drew HB8.out.drew) (fun hHeld => ?_)
   clear hK' K'
   refine tkU 14 (.int .i64 bv) rfl (fun W hC => by go_simp) hHeld ?_
   simp only [Act.put, aS0, aS1, aS2]
   refine wpAnyH_done (by kernel_rfl) ?_ _
   clear hHeld
   subst hw11'
   clear hw10 HMB HSU
   have HB12 := hid HB8.out.drew
   have HO12 := hid HO8.out.drew
   clear HB8 HO8
   generalize w9.drew = w12 at *
   obtain ⟨Wb, hWb⟩ := exE (w12.drew.alloc (.cells #[.int .i64 pv, .int .i64 bv] 3))
   have hbb : Below w12.heap.size w12 Wb := by rw [hWb]; exact (Below.refl w12.heap.size w12).drew.alloc (Nat.le_refl _) _
   have hG : Wb.heap[w12.heap.size]? = some (.cells #[.int .i64 pv, .int .i64 bv] 3 (0, 0)) := by rw [hWb]; exact heap_alloc_new w12.drew _
   have HBb := hid (HB12.out.trans (hbb.mono HB12.out.size))
   have hOb := HO12.out.below hbb HO12.out.row.lt
   have hlk : (rpl F rl kk).length = kk := by rw [rpl_len, HML.out]
   obtain ⟨va, Wa, hrun, hown, hBa⟩ := ow_app (m := [pv, bv]) hOb.own HBb.out hG (by rw [hlk]; simp; omega)
   rw [hlk] at hrun
   obtain ⟨zz, hzz⟩ := exE (rpl F rl kk ++ [pv, bv])
   rw [<- hzz] at hown HRR
   obtain ⟨aa, ca, rfl, hrow⟩ := rowB_of_owns hown
   have HBa := hid hBa
   have HEV := hid (eval_any q b ca (· < Wa.heap.size) aa zz a Wa HQ.out.1 HQ.out.2 (HPB.out Wa hBa) (by rw [hzz, List.length_append, hlk]; simp; omega) (by
    have hq := HQ.out.2
    rw [hzz, HRE.out]
    refine fits_append (fun j hj => ?_) (fits_cons (by have := HFB.out.2.1; omega) (fits_cons (by have := HFB.out.2.2; omega) (fun j hj => by simp at hj)))
    rw [ls_len] at hj
    rw [ls_at _ _ _ hj]
    have := HFB.out.1 j
    omega) HXY.out.2.1 HXY.out.2.2 hrow)
   rw [<- HRR.out] at HEV
   have HRUN := hid hrun
   obtain ⟨G, hGE⟩ := exE (w12.heap.size)
   rw [<- hGE] at HRUN
   have HKT2 : Hid (∀ W, Below W6.heap.size W6 W -> W.cell? ⟨c, 0, none⟩ = some (.pointer (some ⟨b, 0, none⟩)) /\ W.cell? ⟨Nb, 2, none⟩ = some (.int .i64 a)) := fun W hW => by
    have h := HKT.out W hW
    exact ⟨h.1, h.2.2.2.2.2.2.2.1⟩
   obtain ⟨nz, hnz⟩ := exE (zz.length)
   rw [<- hnz] at HRUN HEV
   clear hnz hzz hrun hown hrow hBa hbb hG hOb hlk HFB HRE HRR HKT
   go_wp2_with fail
   refine wp_region_held_drew (S := fun W => W.cell? ⟨c, 0, none⟩ = some (.pointer (some ⟨b, 0, none⟩)) /\ W.cell? ⟨Nb, 2, none⟩ = some (.int .i64 a)) (by kernel_rfl) (HKT2.out w12.drew HB12.out.drew) (fun hHeld => ?_)
   refine tkU 0 (.pointer (some ⟨c, 0, none⟩)) rfl (fun W hC => by go_simp) hHeld ?_
   simp only [Act.put, aS0, aS1, aS2]
   refine tkU 1 (.pointer (some ⟨c, 0, none⟩)) rfl (fun W hC => by go_simp) hHeld ?_
   simp only [Act.put, aS0, aS1, aS2]
   refine tkU 2 (.pointer (some ⟨c, 0, none⟩)) rfl (fun W hC => by go_simp) hHeld ?_
   simp only [Act.put, aS0, aS1, aS2]
   refine tkU 3 (.pointer (some ⟨b, 0, none⟩)) rfl (fun W hC => by (obtain ⟨y0, y1⟩ := hC); go_simp) hHeld ?_
   simp only [Act.put, aS0, aS1, aS2]
   refine tkU 4 (.slice (some ⟨S, 0, none⟩) kk cs) rfl (fun W hC => by go_simp) hHeld ?_
   simp only [Act.put, aS0, aS1, aS2]
   refine tkU 5 (.int .i64 pv) rfl (fun W hC => by go_simp) hHeld ?_
   simp only [Act.put, aS0, aS1, aS2]
   refine tkU 6 (.int .i64 bv) rfl (fun W hC => by go_simp) hHeld ?_
   simp only [Act.put, aS0, aS1, aS2]
   refine tkU 9 (.pointer (some ⟨Nb, 2, none⟩)) rfl (fun W hC => by go_simp) hHeld ?_
   simp only [Act.put, aS0, aS1, aS2]
   refine tkU 10 (.int .i64 a) rfl (fun W hC => by (obtain ⟨y0, y1⟩ := hC); go_simp) hHeld ?_
   simp only [Act.put, aS0, aS1, aS2]
   refine wpAnyH_ready (rs := [7]) (by kernel_rfl) (by simp) ?_
   refine AllReadyH.consU rfl (fun K' hK' => ?_) AllReadyH.nil
   go_simp
   rw [show (w12.alloc (.cells #[.int .i64 pv, .int .i64 bv] 3)).drew = Wb from by rw [hWb]; rfl, <- hGE]
   refine hK'.out _ _ (HKT2.out Wb HBb.out) (fun hHeld => ?_)
   clear hK' K'
   refine wpAnyH_ready (rs := [8]) (by kernel_rfl) (by simp) ?_
   refine AllReadyH.consU rfl (fun K' hK' => ?_) AllReadyH.nil
   rw [if_pos (by rfl)]
   refine rg_appendU _ _ 26 26 rfl _ _ _ rfl rfl HRUN.out ?_
   refine hK'.out _ _ (HKT2.out Wa HBa.out) (fun hHeld => ?_)
   clear hK' K'
   simp only [Act.put, aS0, aS1, aS2]
   refine wpAnyH_ready (rs := [11]) (by kernel_rfl) (by simp) ?_
   refine AllReadyH.consU rfl (fun K' hK' => ?_) AllReadyH.nil
   go_simp
   refine HEV.out.mono ?_
   rintro e w13 ⟨rfl, n13, rfl⟩
   refine hK'.out _ _ (HKT2.out _ (below_drewN HBa.out n13)) (fun hHeld => ?_)
   clear hK' K'
   refine tkU 12 (.int .i64 R) rfl (fun W hC => by go_simp) hHeld ?_
   simp only [Act.put, aS0, aS1, aS2]
   refine wpAnyH_done (by kernel_rfl) ?_ _
   clear hHeld
   go_wp2_with fail
   go_ret
   exact ⟨rfl, HB6.out.trans ((below_drewN HBa.out n13).mono HB6.out.size)⟩
def cpv (q n g rH rD : Nat) (L : List InsZ) (size out : Int) (rows : List (List Int)) (z : List Int) (x y a : Int) (i : Nat) : Int :=
 evz q (cmz q n (Dom.pt q 1 rH (n - 1)) (Dom.pt q g rD i) L size out (ls (cvz q n rH rD g rows i) (20 + L.length)) (ls (cvz q n rH rD g rows ((i + 8) % (8 * n))) (20 + L.length)) (cvz q n rH rD g (onez z) i 0) (cvz q n rH rD g (onez z) ((i + 8) % (8 * n)) 0) x y) a
theorem spT_len (v : Nat -> Nat -> Int) (N m : Nat) : (spT v N m).length = N := by simp [spT]
theorem spT_rat (v : Nat -> Nat -> Int) {N m x : Nat} (h : x < N) : rat (spT v N m) x = ls (v x) m := by simp [spT, rat, h]
theorem spT_fits {q n m N : Nat} {rH rD g : Int} {rows : List (List Int)} (h3 : 3 <= q) (h4 : q <= 2147483647) (hm : m <= 17592186044000) : FitsR (spT (cvz q n rH rD g rows) N m) := fun k hk => by
 rw [spT_len] at hk
 rw [spT_rat _ hk]
 refine ⟨fun j hj => ?_, by rw [ls_len]; exact hm⟩
 rw [ls_len] at hj
 rw [ls_at _ _ _ hj]
 have := evz_bounds q (bk q n rH 1 (colz rows j)) (Dom.pt q g rD k) h3
 unfold cvz
 omega
theorem within_any (G1 G2 N : Nat) (w : World) :
  Calls Tryz.prog 24 #[.slice (some ⟨G1, 0, none⟩) N N, .slice (some ⟨G2, 0, none⟩) N N] w fun e w' => ∃ B1 B2, e = .returned (.func (.func 44) #[] #[.pointer (some ⟨B1, 0, none⟩), .pointer (some ⟨B2, 0, none⟩)]) /\ w'.cell? ⟨B1, 0, none⟩ = some (.slice (some ⟨G1, 0, none⟩) N N) /\ w'.cell? ⟨B2, 0, none⟩ = some (.slice (some ⟨G2, 0, none⟩) N N) /\ Below w.heap.size w w' := by
 obtain ⟨V1, hV1⟩ := exE (w.alloc (.cells #[.slice (some ⟨G1, 0, none⟩) N N] 25))
 obtain ⟨W2, hW2⟩ := exE (V1.alloc (.cells #[.slice (some ⟨G2, 0, none⟩) N N] 25))
 have hz1 : V1.heap.size = w.heap.size + 1 := by rw [hV1]; simp
 have b1 := blA hV1
 have b2 := blA hW2
 have e1 : W2.heap[w.heap.size]? = some (.cells #[.slice (some ⟨G1, 0, none⟩) N N] 25 (0, 0)) := (b2.block _ (by omega)).trans (by rw [hV1]; exact heap_alloc_new w _)
 have e2 : W2.heap[w.heap.size + 1]? = some (.cells #[.slice (some ⟨G2, 0, none⟩) N N] 25 (0, 0)) := by rw [hW2, <- hz1]; exact heap_alloc_new V1 _
 have HX : Hid (W2.cell? ⟨w.heap.size, 0, none⟩ = some (.slice (some ⟨G1, 0, none⟩) N N) /\ W2.cell? ⟨w.heap.size + 1, 0, none⟩ = some (.slice (some ⟨G2, 0, none⟩) N N) /\ Below w.heap.size w W2) := ⟨by simp [World.cell?, e1], by simp [World.cell?, e2], b1.trans (b2.mono b1.size)⟩
 clear hz1 b1 b2 e1 e2
 rw [hV1] at hW2
 clear hV1
 go_enter Tryz.func24, Tryz.ntmps24
 go_wp2_with fail
 rw [<- hW2]
 go_ret
 exact ⟨_, _, rfl, HX.out.1, HX.out.2.1, HX.out.2.2⟩
theorem pcompose_yes (q b k cL cR cz : Nat) (size out x y a : Int) (aL aR az : Option Addr) (L : List InsZ) (rows : List (List Int)) (z : List Int) (w : World) (hpr : Num.Prime q) (h3 : 3 <= q) (h4 : q <= 2147483647) (hp : w.cell? ⟨b, 0, none⟩ = some (.int .i64 q)) (hfit : FitP q L.length ((2 ^ k : Nat) : Int)) (hk2 : 2 <= k) (hk9 : k <= 9) (hd : (q - 1) % 2 ^ k = 0) (hd8 : (q - 1) % 2 ^ (k + 3) = 0) (hlt : 8 * 2 ^ k < q - 1)
  (hl : L.length <= 64) (hl1 : 1 <= L.length) (hrl : rows.length = 2 ^ k) (hzl : z.length = 2 ^ k) (hwd : wdB (20 + L.length) rows = true) (hI : LstI w.heap.size w aL cL L) (hIB : InsB L) (hsz : I64 size) (hout : I64 out) (hF : FitsR rows) (hFz : Fits z) (hL : LstR w.heap.size w aR cR rows) (hLz : RowB w.heap.size w az z) (hx : I64 x) (hy : I64 y) (ha : I64 a) :
  Calls Tryz.prog 6 #[.pointer (some ⟨b, 0, none⟩), .agg #[.int .i64 size, .slice aL L.length cL], .int .i64 out, .slice aR (2 ^ k) cR, .slice az (2 ^ k) cz, .int .i64 x, .int .i64 y, .int .i64 a] w fun e w' =>
   ∃ X g rH rD, Num.GenIs q g /\ RootIs q ((2 ^ k : Nat) : Int) rH /\ RootIs q ((2 ^ (k + 3) : Nat) : Int) rD /\ e = .returned (.tuple #[.slice (some ⟨X, 0, none⟩) (8 * 2 ^ k) (8 * 2 ^ k), .nilIface]) /\ w'.rowIs X 3 (8 * 2 ^ k) (fun i => .int .i64 (cpv q (2 ^ k) g rH rD L size out rows z x y a i)) /\ w.heap.size <= X /\ Below w.heap.size w w' := by
 have hbl : b < w.heap.size := heap_lt hp
 have a4 : 2 ^ 2 <= 2 ^ k := Nat.pow_le_pow_right (by decide) hk2
 have b9 : 2 ^ k <= 2 ^ 9 := Nat.pow_le_pow_right (by decide) hk9
 have e8 : 2 ^ (k + 3) = 8 * 2 ^ k := by rw [Nat.pow_add]; omega
 have HP : Hid (∀ W, Below w.heap.size w W -> W.cell? ⟨b, 0, none⟩ = some (.int .i64 q)) := fun W hW => (hW.cell (p := ⟨b, 0, none⟩) hbl).trans hp
 have HFT : Hid (∀ W, Below w.heap.size w W -> Calls Tryz.prog 18 #[.pointer (some ⟨b, 0, none⟩), .agg #[.int .i64 size, .slice aL L.length cL], .int .i64 ((2 ^ k : Nat) : Int)] W fun e w' => e = .returned (.bool true) /\ Below W.heap.size W w') := fun W hW => by
  rw [<- fitQ_yes hfit]
  exact pfits_any q b L.length cL size _ aL W h3 h4 (HP.out W hW) (by omega)
 have HWI := hid (fun W => pwidth_any size aL L.length cL W (by omega))
 have HIW : Hid (∀ W, Below w.heap.size w W -> Calls Tryz.prog 19 #[.slice aR (2 ^ k) cR, .int .i64 ((20 + L.length : Nat) : Int)] W fun e w' => e = .returned (.bool true) /\ Below W.heap.size W w') := fun W hW => by
  rw [<- hwd, <- hrl]
  exact wisWide_any cR (20 + L.length) aR rows W (by omega) ((hL.below hW).mono hW.size)
 have HNC := hid (fun W (hW : Below w.heap.size w W) => newClaim_any q b L.length cL k size out aL W hpr h4 (HP.out W hW) hk2 hk9 hd hd8 hlt)
 obtain ⟨m, hm⟩ := exE (20 + L.length)
 have hwl : ∀ j, j < 2 ^ k -> (rat rows j).length = m := fun j hj => by rw [hm]; exact wdB_at hwd (by omega)
 have HS1 : Hid (∀ (c s H D g rH rD : Nat) (W : World), Below w.heap.size w W -> ClmAt W c b s H D q (2 ^ k) g rH rD size out aL L.length cL -> Num.GenIs q g -> RootIs q ((2 ^ k : Nat) : Int) rH -> RootIs q ((2 ^ (k + 3) : Nat) : Int) rD -> Calls Tryz.prog 22 #[.pointer (some ⟨c, 0, none⟩), .slice aR (2 ^ k) cR] W fun e w' => ∃ G K, e = .returned (.tuple #[.slice (some ⟨G, 0, none⟩) (8 * 2 ^ k) (8 * 2 ^ k), .nilIface]) /\ Tbl W.heap.size G K w' (spT (cvz q (2 ^ k) rH rD g rows) (8 * 2 ^ k) m) /\ Below W.heap.size W w') := fun c s H D g rH rD W hW hC hG hH hD => by
  obtain ⟨o1, o2⟩ := root_ord2 hpr h3 hd hH
  obtain ⟨p1, p2⟩ := root_ord2 hpr h3 hd8 hD
  obtain ⟨g1, g2, _⟩ := Num.genIs_some hpr h3 hG
  rw [e8] at p1
  exact spread_any c b s H D q (2 ^ k) g rH rD size out aL L.length cL cR m aR rows W hC ⟨hpr, h3, h4, hC.p, hC.dH, ⟨k, by omega, rfl⟩, by omega, by omega, o1, by omega, by omega, fun h => by have := Int.le_of_dvd (by omega) h; omega⟩ ⟨hpr, h3, h4, hC.p, hC.dD, ⟨k + 3, by omega, e8.symm⟩, by omega, by omega, p1, by omega, by omega, fun h => by have := Int.le_of_dvd (by omega) h; omega⟩ (by omega) (by omega) hrl (by omega) hwl hF ((hL.below hW).mono hW.size)
 have HS2 : Hid (∀ (c s H D g rH rD G : Nat) (K : Nat -> Nat) (base : Nat) (W : World), ClmAt W c b s H D q (2 ^ k) g rH rD size out aL L.length cL -> Num.GenIs q g -> RootIs q ((2 ^ k : Nat) : Int) rH -> RootIs q ((2 ^ (k + 3) : Nat) : Int) rD -> Tbl base G K W (onez z) -> Calls Tryz.prog 22 #[.pointer (some ⟨c, 0, none⟩), .slice (some ⟨G, 0, none⟩) (2 ^ k) (2 ^ k)] W fun e w' => ∃ G K, e = .returned (.tuple #[.slice (some ⟨G, 0, none⟩) (8 * 2 ^ k) (8 * 2 ^ k), .nilIface]) /\ Tbl W.heap.size G K w' (spT (cvz q (2 ^ k) rH rD g (onez z)) (8 * 2 ^ k) 1) /\ Below W.heap.size W w') := fun c s H D g rH rD G K base W hC hG hH hD hT => by
  obtain ⟨o1, o2⟩ := root_ord2 hpr h3 hd hH
  obtain ⟨p1, p2⟩ := root_ord2 hpr h3 hd8 hD
  obtain ⟨g1, g2, _⟩ := Num.genIs_some hpr h3 hG
  rw [e8] at p1
  exact spread_any c b s H D q (2 ^ k) g rH rD size out aL L.length cL (2 ^ k) 1 (some ⟨G, 0, none⟩) (onez z) W hC ⟨hpr, h3, h4, hC.p, hC.dH, ⟨k, by omega, rfl⟩, by omega, by omega, o1, by omega, by omega, fun h => by have := Int.le_of_dvd (by omega) h; omega⟩ ⟨hpr, h3, h4, hC.p, hC.dD, ⟨k + 3, by omega, e8.symm⟩, by omega, by omega, p1, by omega, by omega, fun h => by have := Int.le_of_dvd (by omega) h; omega⟩ (by omega) (by omega) (by rw [onez_len]; exact hzl) (by omega) (fun j hj => by rw [onez_rat (by omega)]; rfl) (fun j hj => by rw [onez_len] at hj; rw [onez_rat hj]; exact ⟨fits_cons (hFz j hj) (fun j hj => by simp at hj), by simp⟩) (hT.lst (by rw [onez_len, hzl]; exact Nat.le_refl _))
 have HOE : Hid (∀ W, Below w.heap.size w W -> Calls Tryz.prog 23 #[.slice az (2 ^ k) cz] W fun e w' => ∃ G K, e = .returned (.slice (some ⟨G, 0, none⟩) (2 ^ k) (2 ^ k)) /\ Tbl W.heap.size G K w' (onez z) /\ Below W.heap.size W w') := fun W hW => by
  have h0 := oneEach_any cz az z W (by omega) (fun j hj => ((hLz.below hW).mono hW.size) j hj)
  rw [hzl] at h0
  exact h0
 have HCO : Hid (∀ (c s H D g rH rD B1 B2 G1 G2 base1 base2 : Nat) (K1 K2 : Nat -> Nat) (i : Nat) (W : World), Below w.heap.size w W -> ClmAt W c b s H D q (2 ^ k) g rH rD size out aL L.length cL -> Num.GenIs q g -> RootIs q ((2 ^ k : Nat) : Int) rH -> RootIs q ((2 ^ (k + 3) : Nat) : Int) rD -> Tbl base1 G1 K1 W (spT (cvz q (2 ^ k) rH rD g rows) (8 * 2 ^ k) m) -> Tbl base2 G2 K2 W (spT (cvz q (2 ^ k) rH rD g (onez z)) (8 * 2 ^ k) 1) -> W.cell? ⟨B1, 0, none⟩ = some (.slice (some ⟨G1, 0, none⟩) (8 * 2 ^ k) (8 * 2 ^ k)) -> W.cell? ⟨B2, 0, none⟩ = some (.slice (some ⟨G2, 0, none⟩) (8 * 2 ^ k) (8 * 2 ^ k)) -> i < 8 * 2 ^ k ->
   Calls Tryz.prog 25 #[.pointer (some ⟨c, 0, none⟩), .int .i64 (i : Int), .func (.func 44) #[] #[.pointer (some ⟨B1, 0, none⟩), .pointer (some ⟨B2, 0, none⟩)], .agg #[.int .i64 x, .int .i64 y, .int .i64 a, .int .i64 0]] W fun e w' => e = .returned (.int .i64 (cpv q (2 ^ k) g rH rD L size out rows z x y a i)) /\ Below W.heap.size W w') := fun c s H D g rH rD B1 B2 G1 G2 base1 base2 K1 K2 i W hW hC hG hH hD hT1 hT2 hc1 hc2 hi => by
  obtain ⟨g1, g2, _⟩ := Num.genIs_some hpr h3 hG
  have h0 := composed_any c b s H D q (2 ^ k) k g rH rD size out aL cL L B1 B2 G1 G2 base1 base2 K1 K2 _ _ i m x y a 0 W hpr h3 h4 hC (by omega) rfl (by omega) (root_ord2 hpr h3 hd hH).2 (root_ord2 hpr h3 hd8 hD).2 g2 hl hl1 ((hI.below hW).mono hW.size) hIB hsz hout hm hT1 hT2 (spT_len _ _ _) (spT_len _ _ _) (fun j hj => by rw [spT_rat _ hj, ls_len]) (fun j hj => by rw [spT_rat _ hj, ls_len]) (spT_fits h3 h4 (by omega)) (spT_fits h3 h4 (by omega)) hc1 hc2 hi hx hy ha
  have hi' : (i + 8) % (8 * 2 ^ k) < 8 * 2 ^ k := Nat.mod_lt _ (by omega)
  rw [spT_rat _ hi, spT_rat _ hi', spT_rat _ hi, spT_rat _ hi', ls_at _ _ _ (by omega), ls_at _ _ _ (by omega), hm] at h0
  exact h0
 obtain ⟨n, hn⟩ := exE (2 ^ k)
 obtain ⟨nL, hnl⟩ := exE (L.length)
 obtain ⟨C, hC⟩ : ∃ C : Nat -> Nat -> Nat -> Nat -> Int, C = fun g rH rD i => cpv q (2 ^ k) g rH rD L size out rows z x y a i := ⟨_, rfl⟩
 have HC : Hid (∀ g rH rD i, C g rH rD i = cpv q (2 ^ k) g rH rD L size out rows z x y a i) := fun g rH rD i => by rw [hC]
 have HCE := hid hC
 rw [show (fun (e : Ending) (w' : World) => ∃ X g rH rD, Num.GenIs q g /\ RootIs q ((2 ^ k : Nat) : Int) rH /\ RootIs q ((2 ^ (k + 3) : Nat) : Int) rD /\ e = .returned (.tuple #[.slice (some ⟨X, 0, none⟩) (8 * 2 ^ k) (8 * 2 ^ k), .nilIface]) /\ w'.rowIs X 3 (8 * 2 ^ k) (fun i => .int .i64 (cpv q (2 ^ k) g rH rD L size out rows z x y a i)) /\ w.heap.size <= X /\ Below w.heap.size w w') = (fun (e : Ending) (w' : World) => ∃ X g rH rD, Num.GenIs q g /\ RootIs q ((2 ^ k : Nat) : Int) rH /\ RootIs q ((2 ^ (k + 3) : Nat) : Int) rD /\ e = .returned (.tuple #[.slice (some ⟨X, 0, none⟩) (8 * 2 ^ k) (8 * 2 ^ k), .nilIface]) /\ w'.rowIs X 3 (8 * 2 ^ k) (fun i => .int .i64 (C g rH rD i)) /\ w.heap.size <= X /\ Below w.heap.size w w') from by rw [hC]]
 simp only [<- HC.out] at HCO
 have hN9 : 4 <= n /\ n <= 512 := by omega
 rw [<- hn] at HS1 HS2 HOE HCO HFT HIW HNC ⊢
 rw [<- hnl] at HS1 HS2 HCO HFT HIW HNC HWI hl ⊢
 obtain ⟨N, hN⟩ := exE (8 * n)
 rw [<- hN] at HS1 HS2 HCO ⊢
 obtain ⟨R, hR⟩ : ∃ R : Ending -> World -> Prop, R = (fun (e : Ending) (w' : World) => ∃ X g rH rD, Num.GenIs q g /\ RootIs q (n : Int) rH /\ RootIs q ((2 ^ (k + 3) : Nat) : Int) rD /\ e = .returned (.tuple #[.slice (some ⟨X, 0, none⟩) N N, .nilIface]) /\ w'.rowIs X 3 N (fun i => .int .i64 (C g rH rD i)) /\ w.heap.size <= X /\ Below w.heap.size w w') := ⟨_, rfl⟩
 rw [<- hR]
 have HR : Hid (∀ X g rH rD W, Num.GenIs q g -> RootIs q (n : Int) rH -> RootIs q ((2 ^ (k + 3) : Nat) : Int) rD -> W.rowIs X 3 N (fun i => .int .i64 (C g rH rD i)) -> w.heap.size <= X -> Below w.heap.size w W -> R (.returned (.tuple #[.slice (some ⟨X, 0, none⟩) N N, .nilIface])) W) := fun X g rH rD W h1 h2 h5 h6 h7 h8 => by rw [hR]; exact ⟨X, g, rH, rD, h1, h2, h5, rfl, h6, h7, h8⟩
 have hN4 : N <= 4096 := by omega
 have hmkN := run_make_row' (P := Tryz.prog) 26 3 (.int .i64 0) 8 Tryz.underlying26 intInfo rfl .i64 .i64 N (by omega) (by omega)
 have HMK := hid hmkN
 have HQ0 := hid hp
 obtain ⟨m0, hm0⟩ := exE (20 + nL)
 rw [<- hm0] at HIW
 simp only [<- hm0] at HWI
 obtain ⟨W0, hW0⟩ := exE (w.alloc (.cells #[.int .i64 size, .slice aL nL cL] 24))
 have hb0 := blA hW0
 have hs0 := haA hW0
 obtain ⟨A, hA⟩ := exE (w.heap.size)
 have k1 : W0.cell? ⟨A, 0, none⟩ = some (.int .i64 size) := by rw [hA]; simp [World.cell?, hs0]
 have k2 : W0.cell? ⟨A, 1, none⟩ = some (.slice aL nL cL) := by rw [hA]; simp [World.cell?, hs0]
 have HAL : Hid (A < W0.heap.size) := by unfold Hid; rw [hA]; exact (Array.getElem?_eq_some_iff.1 hs0).1
 have HB0 := hid hb0
 have HFI := hid (HFT.out W0 hb0)
 clear hb0 hs0 hp hfit hk2 hk9 hd hd8 hlt hl1 hrl hzl hwd hI hIB hsz hout hF hFz hL hLz hx hy ha a4 b9 e8 hwl hm hmkN hnl HFT hn hN hR hC hm0
 go_enter Tryz.func6, Tryz.ntmps6
 go_wp2_with fail
 rw [<- hW0, <- hA]
 clear hW0 hA
 go_wp2_with fail
 refine HFI.out.mono ?_
 rintro e w1 ⟨rfl, hb1⟩
 have HB1 := hid (HB0.out.trans (hb1.mono HB0.out.size))
 have HA1 := hid (Nat.lt_of_lt_of_le HAL.out hb1.size)
 replace k1 := (hb1.cell (p := ⟨A, 0, none⟩) HAL.out).trans k1
 replace k2 := (hb1.cell (p := ⟨A, 1, none⟩) HAL.out).trans k2
 clear hb1 HFI HAL HB0
 have qn : ((n : Int) == (n : Int)) = true := beq_self_eq_true _
 go_wp2_with fail
 refine (HWI.out w1).mono ?_
 rintro e w2 ⟨rfl, hb2⟩
 have HB2 := hid (HB1.out.trans (hb2.mono HB1.out.size))
 have HA2 := hid (Nat.lt_of_lt_of_le HA1.out hb2.size)
 replace k1 := (hb2.cell (p := ⟨A, 0, none⟩) HA1.out).trans k1
 replace k2 := (hb2.cell (p := ⟨A, 1, none⟩) HA1.out).trans k2
 clear hb2 HWI HA1 HB1
 go_wp2_with fail
 refine (HIW.out w2 HB2.out).mono ?_
 rintro e w3 ⟨rfl, hb3⟩
 have HB3 := hid (HB2.out.trans (hb3.mono HB2.out.size))
 replace k1 := (hb3.cell (p := ⟨A, 0, none⟩) HA2.out).trans k1
 replace k2 := (hb3.cell (p := ⟨A, 1, none⟩) HA2.out).trans k2
 clear hb3 HIW HA2 HB2
 go_wp2_with fail
 refine (HNC.out w3 HB3.out).mono ?_
 rintro e w4 ⟨c, sp, H, D, g, rH, rD, n', d', rfl, hC4, _, _, _, hG, hH, hD, hb4⟩
 have HB4 := hid (HB3.out.trans (hb4.mono HB3.out.size))
 have HC4 := hid hC4
 have HG := hid hG
 have HH := hid hH
 have HD := hid hD
 clear hb4 HNC HB3 hC4 hG hH hD k1 k2
 go_wp2_with fail
 refine (HS1.out c sp H D g rH rD w4 HB4.out HC4.out HG.out HH.out HD.out).mono ?_
 rintro e w5 ⟨G1, K1, rfl, hT5, hb5⟩
 have HB5 := hid (HB4.out.trans (hb5.mono HB4.out.size))
 have HC5 := hid (HC4.out.below hb5 HC4.out.lt.1 HC4.out.lt.2.1 HC4.out.lt.2.2.1 HC4.out.lt.2.2.2)
 have HT5 := hid hT5
 clear hb5 hT5 HS1 HC4 HB4
 go_wp2_with fail
 refine (HOE.out w5 HB5.out).mono ?_
 rintro e w6 ⟨Gz, Kz, rfl, hT6, hb6⟩
 have HB6 := hid (HB5.out.trans (hb6.mono HB5.out.size))
 have HC6 := hid (HC5.out.below hb6 HC5.out.lt.1 HC5.out.lt.2.1 HC5.out.lt.2.2.1 HC5.out.lt.2.2.2)
 have HT6 := hid (HT5.out.below hb6 (Nat.le_refl _))
 have HZ6 := hid hT6
 clear hb6 hT6 HOE HC5 HB5 HT5
 go_wp2_with fail
 refine (HS2.out c sp H D g rH rD Gz Kz _ w6 HC6.out HG.out HH.out HD.out HZ6.out).mono ?_
 rintro e w7 ⟨G2, K2, rfl, hT7, hb7⟩
 have HB7 := hid (HB6.out.trans (hb7.mono HB6.out.size))
 have HC7 := hid (HC6.out.below hb7 HC6.out.lt.1 HC6.out.lt.2.1 HC6.out.lt.2.2.1 HC6.out.lt.2.2.2)
 have HT7 := hid (HT6.out.below hb7 (Nat.le_refl _))
 have HZ7 := hid hT7
 clear hb7 hT7 HS2 HC6 HB6 HT6 HZ6
 go_wp2_with fail
 refine (within_any G1 G2 N w7).mono ?_
 rintro e w8 ⟨B1, B2, rfl, hc1, hc2, hb8⟩
 have HB8 := hid (HB7.out.trans (hb8.mono HB7.out.size))
 have HC8 := hid (HC7.out.below hb8 HC7.out.lt.1 HC7.out.lt.2.1 HC7.out.lt.2.2.1 HC7.out.lt.2.2.2)
 have HT8 := hid (HT7.out.below hb8 (Nat.le_refl _))
 have HZ8 := hid (HZ7.out.below hb8 (Nat.le_refl _))
 have HK8 := hid (And.intro hc1 hc2)
 clear hb8 hc1 hc2 HC7 HB7 HT7 HZ7
 obtain ⟨W9, hW9⟩ := exE (w8.alloc (.cells #[.int .i64 x, .int .i64 y, .int .i64 a, .int .i64 0] 62))
 obtain ⟨V, hV⟩ := exE (W9.alloc (.cells (madeCells #[.int .i64 0] N) 3))
 obtain ⟨F, hF⟩ : ∃ F : Nat -> Int, F = fun i => C g rH rD i := ⟨_, rfl⟩
 have hb9 := blA hW9
 have hY9 := haA hW9
 have hs9 : W9.heap.size = w8.heap.size + 1 := by rw [hW9]; simp
 have bV := blA hV
 have r0 : V.rowIs W9.heap.size 3 N (ivF F 0) := by
  rw [hV]
  exact (World.rowIs_made W9 _ N _).congr (fun i _ => by unfold ivF; rw [if_neg (by omega)])
 have HB9 := hid (HB8.out.trans (hb9.mono HB8.out.size))
 have HC9 := hid (HC8.out.below hb9 HC8.out.lt.1 HC8.out.lt.2.1 HC8.out.lt.2.2.1 HC8.out.lt.2.2.2)
 have HT9 := hid (HT8.out.below hb9 (Nat.le_refl _))
 have HZ9 := hid (HZ8.out.below hb9 (Nat.le_refl _))
 have HK9 := hid (And.intro ((hb9.cell (p := ⟨B1, 0, none⟩) (heap_lt HK8.out.1)).trans HK8.out.1) ((hb9.cell (p := ⟨B2, 0, none⟩) (heap_lt HK8.out.2)).trans HK8.out.2))
 obtain ⟨Y, hY⟩ := exE (w8.heap.size)
 obtain ⟨X, hX⟩ := exE (W9.heap.size)
 rw [<- hY] at hY9
 have hX1 : w8.heap.size + 1 = X := by rw [hX, hs9]
 rw [<- hX] at r0
 have HY9 := hid hY9
 have HR0 := hid r0
 have HBV := hid bV
 have HX := hid hX
 have HF := hid hF
 have hmkN := HMK.out
 clear hb9 hY9 bV r0 hs9 HC8 HB8 HT8 HZ8 HK8 hF
 go_wp2_with fail
 rw [<- hW9, <- hY]
 clear hX1 hY hW9
 go_wp2_with fail
 rw [<- hV, <- hX]
 clear hV hX hmkN
 go_wp2_with fail
 have HCB : Hid (∀ i, i < N -> ∀ W, Below W9.heap.size W9 W -> Calls Tryz.prog 25 #[.pointer (some ⟨c, 0, none⟩), .int .i64 (i : Int), .func (.func 44) #[] #[.pointer (some ⟨B1, 0, none⟩), .pointer (some ⟨B2, 0, none⟩)], .agg #[.int .i64 x, .int .i64 y, .int .i64 a, .int .i64 0]] W fun e w' => e = .returned (.int .i64 (F i)) /\ Below W.heap.size W w') := fun i hi W hW => by
  rw [HF.out]
  exact HCO.out c sp H D g rH rD B1 B2 G1 G2 _ _ K1 K2 i W (HB9.out.trans (hW.mono HB9.out.size)) (HC9.out.below hW HC9.out.lt.1 HC9.out.lt.2.1 HC9.out.lt.2.2.1 HC9.out.lt.2.2.2) HG.out HH.out HD.out (HT9.out.below hW (Nat.le_refl _)) (HZ9.out.below hW (Nat.le_refl _)) ((hW.cell (p := ⟨B1, 0, none⟩) (heap_lt HK9.out.1)).trans HK9.out.1) ((hW.cell (p := ⟨B2, 0, none⟩) (heap_lt HK9.out.2)).trans HK9.out.2) hi
 have HYC : Hid (∀ W, Below W9.heap.size W9 W -> W.cell? ⟨Y, 0, none⟩ = some (.int .i64 x) /\ W.cell? ⟨Y, 1, none⟩ = some (.int .i64 y) /\ W.cell? ⟨Y, 2, none⟩ = some (.int .i64 a) /\ W.cell? ⟨Y, 3, none⟩ = some (.int .i64 0)) := fun W hW => by
  have e1 := (hW.block Y (Array.getElem?_eq_some_iff.1 HY9.out).1).trans HY9.out
  exact ⟨by simp [World.cell?, e1], by simp [World.cell?, e1], by simp [World.cell?, e1], by simp [World.cell?, e1]⟩
 clear HCO HT9 HZ9 HK9 HC9 HY9
 go_loopw [25, 90] (fun _ iv wr => ∃ i : Nat, i <= N /\ iv = .int .i64 i /\ Hid (wr.rowIs X 3 N (ivF F i)) /\ Hid (Below W9.heap.size W9 wr)) (fun _ iv _ => N - (intOf iv).toNat)
 case atStart => exact ⟨0, Nat.zero_le _, rfl, HR0, HBV⟩
 case round =>
  obtain ⟨i, hi, rfl, HRW, HBR⟩ := hrel
  by_cases hlt : i < N
  ·have hlt2 : (i : Int) < (N : Int) := by omega
   have his : IntKind.i64.wrap ((i : Int) + 1) = (i : Int) + 1 := by rw [IntKind.wrap_i64]; omega
   obtain ⟨y0, y1, y2, y3⟩ := HYC.out wr HBR.out
   go_wp2_with fail
   refine (HCB.out i hlt wr HBR.out).mono ?_
   rintro e w10 ⟨rfl, hb10⟩
   have hXl : X < wr.heap.size := HRW.out.lt
   have hr10 := row_below HRW.out hb10 hXl
   have s1 := hr10.cell hlt
   have s2 := hr10.frozen i
   have HST : Hid ((w10.setCell ⟨X, i, none⟩ (.int .i64 (F i))).rowIs X 3 N (ivF F (i + 1))) := (hr10.set i _).congr (fun t _ => ivF_set F i t)
   have HBS : Hid (Below W9.heap.size W9 (w10.setCell ⟨X, i, none⟩ (.int .i64 (F i)))) := (HBR.out.trans (hb10.mono HBR.out.size)).setCell (p := ⟨X, i, none⟩) (by show W9.heap.size <= X; rw [HX.out]; exact Nat.le_refl _) _
   clear hr10 hb10 y0 y1 y2 y3 HRW HBR hXl
   generalize F i = fi at *
   go_wp2_with fail
   exact ⟨⟨i + 1, by omega, by simp, HST, HBS⟩, by simp only [intOf, Int.toNat_natCast]; omega⟩
  ·obtain rfl : i = N := by omega
   go_wp2_with fail
   exact HR.out X g rH rD wr HG.out HH.out HD.out (HRW.out.congr (fun t ht => by unfold ivF; rw [if_pos ht, HF.out])) (by rw [HX.out]; exact HB9.out.size) (HB9.out.trans (HBR.out.mono HB9.out.size))
end Go.Proofs.YtjlngcmkgkiplaaGreatDoor
