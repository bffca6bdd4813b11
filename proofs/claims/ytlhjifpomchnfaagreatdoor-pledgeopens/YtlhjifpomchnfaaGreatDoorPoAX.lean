
import Derived.Test.YtlhjifpomchnfaaGreatDoorPoAN
import Derived.Test.YtlhjifpomchnfaaGreatDoorPoAO
import Derived.Test.YtlhjifpomchnfaaGreatDoorDoms
import Derived.Test.YtlhjifpomchnfaaGreatDoorPoAR
import Derived.Test.YtlhjifpomchnfaaGreatDoorPoAM
import Derived.Test.YtlhjifpomchnfaaGreatDoorPoAP
import Derived.Test.YtlhjifpomchnfaaGreatDoorPoAU
set_option maxRecDepth 1000000
set_option maxHeartbeats 8000000
namespace Go.Proofs.YtlhjifpomchnfaaGreatDoor
open Go.RowKit
theorem wpList_append_runP {ops : Array Oper} {rest : List Oper} {o : Oper} {a : Act} {w w2 : World} {Q : Exit -> Act -> World -> Prop} (hgd : o.guard = none) (s x : Operand) (tS tX : TypeId)
  (ho : o.op = .call { callee := .builtin .append, args := #[s, x], argTypes := #[tS, tX] }) (v u r : Value) (hs : a.eval s = v) (hx : a.eval x = u) (hrun : (Builtin.append_ #[tS, tX] o.type #[v, u]).run Tryz.prog w = .ok r w2)
  (h : wpList Tryz.prog ops Q rest (a.put o.dst r) w2) : wpList Tryz.prog ops Q (o :: rest) a w := by
 refine wpList_plain hgd fun K hK => ?_
 unfold Oper.wp
 simp [execOp, ho, resolve, invoke, builtin, hs, hx, hrun, Result.andThen]
 exact hK _ _ h
theorem own_push {base n : Nat} {W : World} {v u : Value} {vals : List Value} (h : W.ownsRow base 22 1 v n vals) (hu : u.oneCell' = true) (hlen : n <= 1000000) (hbase : base <= W.heap.size) :
  ∃ v' w5, (Builtin.append_ #[29, 29] 29 #[v, .slice (some ⟨W.heap.size, 0, none⟩) 1 1]).run Tryz.prog (W.alloc (.cells #[u] 22)) = .ok v' w5 /\ w5.ownsRow base 22 1 v' (n + 1) (vals ++ [u]) /\ Below base W w5 := by
 obtain ⟨i0, hi, hz0, hz1, hz2⟩ := info_parts Tryz.infoSl
 have hba : Below base W (W.alloc (.cells #[u] 22)) := (Below.refl _ _).alloc hbase _
 have ha := World.ownsRow.alloc h (.cells #[u] 22)
 obtain ⟨v', w5, hrun, hown2, hgrow, _, _⟩ := run_append_own_at (W.alloc (.cells #[u] 22)) base 29 29 22 i0 _ 1 24 Tryz.underlying29 hi hz0 hz1 hz2 rfl (by decide) v _ _ ha ⟨W.heap.size, 0, none⟩ 1 1 [u] rfl (cell_one_new _ _ _) (by intro t ht; simp at ht; subst ht; exact hu) (by unfold maxLen; omega) (by omega) (by simp; omega)
 exact ⟨v', w5, hrun, hown2, hba.trans ((Below.refl base _).grown hgrow (by simp; omega) (fun k hk => (ha.lt k hk).1))⟩
def chr (ap o cp st j : Nat) : Value := .slice (some ⟨ap, o + st * j, none⟩) st (cp - st * j)
theorem rows_of_ownsR {base ap o cp st m : Nat} {w : World} {v : Value} {t : List Int} (ht : t.length = st * m) (hcp : st * m <= cp) (h : w.ownsRow base 22 1 v m ((List.range m).map (chr ap o cp st))) (hr : RowB w.heap.size w (some ⟨ap, o, none⟩) t) : ∃ a c, v = .slice a m c /\ LstR w.heap.size w a c (rwl st m t) := by
 rcases h.2 with ⟨rfl, h0⟩ | ⟨g, cap, cur, rfl, hb, hg, hn, hm, hs, hx⟩
 ·subst h0
  exact ⟨none, 0, rfl, fun k hk => by rw [rwl_len] at hk; omega, by rw [rwl_len]; omega, fun _ => rfl⟩
 ·refine ⟨some ⟨g, 0, none⟩, cap, rfl, fun k hk => ?_, by rw [rwl_len]; exact hn, fun e => by cases e⟩
  rw [rwl_len] at hk
  have h1 : st * (k + 1) <= st * m := Nat.mul_le_mul_left _ (by omega)
  rw [Nat.mul_succ] at h1
  refine ⟨g, 0, some ⟨ap, o + st * k, none⟩, cp - st * k, rfl, (Array.getElem?_eq_some_iff.1 hg).1, ?_, ⟨fun i hi => ?_, by rw [rwl_wide ht hk]; omega, fun e => by cases e⟩⟩
  ·rw [Nat.zero_add, h.cellAt k (by omega), rwl_wide ht hk]
   simp [chr, hk]
  ·rw [rwl_wide ht hk] at hi
   obtain ⟨b, o', e1, e2, e3⟩ := hr (st * k + i) (by omega)
   cases e1
   exact ⟨ap, o + st * k, rfl, e2, by rw [rwl_zat hk hi, Nat.add_assoc]; exact e3⟩
theorem pgc_ls (rows : List (List Int)) (j : Nat) : pgc rows j = ls (fun i => zat (rat rows i) j) rows.length := by
 unfold pgc ls
 refine List.ext_getElem (by simp) (fun i h1 h2 => ?_)
 rw [List.getElem_map, List.getElem_map, List.getElem_range]
 unfold rat
 rw [List.getD_eq_getElem?_getD, List.getElem?_eq_getElem (by simpa using h1)]
 rfl
theorem rrows12_own (v ap o cp m : Nat) (t : List Int) (w : World) (hv : v <= 12) (ht : t.length = 2 ^ v) (hm : 2 ^ v = 2 ^ (v - v / 2) * m) (hl : Lst w.heap.size w (some ⟨ap, o, none⟩) cp t) :
  Calls Tryz.prog 41 #[.slice (some ⟨ap, o, none⟩) (2 ^ v) cp, .int .i64 (v : Int)] w fun e w' => ∃ x, e = .returned x /\ w'.ownsRow w.heap.size 22 1 x m ((List.range m).map (chr ap o cp (2 ^ (v - v / 2)))) /\ Below w.heap.size w w' := by
 have hle : 2 ^ v <= 4096 := by have := Nat.pow_le_pow_right (show 0 < 2 by omega) hv; omega
 have hst1 : 1 <= 2 ^ (v - v / 2) := Nat.one_le_two_pow
 have hmle : m <= 2 ^ v := by rw [hm]; exact Nat.le_mul_of_pos_left _ hst1
 have HTW := hid (fun W => rtwo_any (v - v / 2) W (by omega))
 obtain ⟨lo, hlo⟩ := exE (v - v / 2)
 have q1 : (v : Int).tdiv 2 = ((v / 2 : Nat) : Int) := by rw [Int.tdiv_eq_ediv_of_nonneg (by omega)]; omega
 have q0 : (v : Int) / 2 = ((v / 2 : Nat) : Int) := by omega
 have q2 : IntKind.i64.wrap ((v / 2 : Nat) : Int) = ((v / 2 : Nat) : Int) := by rw [IntKind.wrap_i64]; omega
 have q3 : (v : Int) - ((v / 2 : Nat) : Int) = (lo : Int) := by omega
 have q4 : IntKind.i64.wrap (lo : Int) = (lo : Int) := by rw [IntKind.wrap_i64]; omega
 rw [<- hlo] at HTW hst1 ⊢
 obtain ⟨st, hst⟩ := exE (2 ^ lo)
 obtain ⟨L, hL⟩ := exE (2 ^ v)
 rw [<- hst] at HTW hst1 ⊢
 rw [<- hL] at hle hmle ⊢
 have HLC : Hid (L = st * m /\ L <= cp) := ⟨by rw [hL, hst, hlo]; exact hm, by have := hl.room; omega⟩
 have hcpL := HLC.out.2
 generalize v / 2 = hh at *
 clear hl ht hm hst hL hlo hv
 go_enter Tryz.func41, Tryz.ntmps41
 go_wp2_with fail
 refine (HTW.out w).mono ?_
 rintro e w0 ⟨rfl, hw⟩
 have hw1 := hw.symm
 subst hw1
 clear hw
 clear q0 q1 q2 q3 q4 HTW
 go_wp2_with fail
 go_loopw [6, 7] (fun ov iv wr => ∃ (k I : Nat), k <= m /\ iv = .int .i64 (I : Int) /\ Hid (I = st * k) /\ Hid (wr.ownsRow w.heap.size 22 1 ov k ((List.range k).map (chr ap o cp st)) /\ Below w.heap.size w wr)) (fun _ iv _ => L - (intOf iv).toNat)
 case atStart => exact ⟨0, 0, Nat.zero_le _, rfl, rfl, World.ownsRow_nil _ _ _ _, Below.refl _ _⟩
 case round =>
  obtain ⟨k, I, hk, rfl, hI, hJ⟩ := hrel
  by_cases hlt : k < m
  ·have HI2 : Hid (I + st = st * (k + 1)) := by have := hI.out; unfold Hid; rw [Nat.mul_succ]; omega
   have hIL : I + st <= L := by rw [HI2.out, HLC.out.1]; exact Nat.mul_le_mul_left _ (by omega)
   have hlt2 : (I : Int) < (L : Int) := by omega
   have hks : IntKind.i64.wrap ((I : Int) + (st : Int)) = (I : Int) + (st : Int) := by rw [IntKind.wrap_i64]; omega
   have hs1 : (0 : Int) <= (I : Int) := by omega
   have hs2 : (I : Int) <= (I : Int) + (st : Int) := by omega
   have hs3 : (I : Int) + (st : Int) <= (cp : Int) := by omega
   have hto : ((I : Int) + (st : Int)).toNat - I = st := by omega
   have hne : ¬ cp = I := by omega
   obtain ⟨v', w5, hrun, hown, hb5⟩ := own_push (u := .slice (some ⟨ap, o + I, none⟩) st (cp - I)) hJ.out.1 rfl (by omega) hJ.out.2.size
   have HRUN := hid hrun
   have HN : Hid (w5.ownsRow w.heap.size 22 1 v' (k + 1) ((List.range (k + 1)).map (chr ap o cp st)) /\ Below w.heap.size w w5) := by
    unfold Hid
    rw [List.range_succ, List.map_append]
    refine ⟨?_, hJ.out.2.trans hb5⟩
    have e : chr ap o cp st k = .slice (some ⟨ap, o + I, none⟩) st (cp - I) := by unfold chr; rw [hI.out]
    simp only [List.map_cons, List.map_nil, e]
    exact hown
   clear hrun hown hb5 hJ
   go_wp2_with (at_builtin; refine wpList_append_runP rfl _ _ _ _ rfl _ _ _ rfl rfl HRUN.out ?_)
   go_roundw
   case rel => exact ⟨k + 1, I + st, by omega, by go_num, HI2, HN⟩
   case measure => simp [intOf]; omega
  ·obtain rfl : k = m := by omega
   have hge : ¬ (I : Int) < (L : Int) := by have h1 := hI.out; have h2 := HLC.out.1; omega
   have HE := hid hJ.out
   clear hJ
   go_wp2_with fail
   go_ret
   exact ⟨_, rfl, HE.out.1, HE.out.2⟩
theorem rcolumns12_own (q m N cr : Nat) (s r : Int) (ar : Option Addr) (rows : List (List Int)) (w : World) (h3 : 3 <= q) (h4 : q <= 2147483647) (hN1 : 1 <= N) (hN : N <= 65536) (hr0 : 0 <= r) (hr1 : r < q) (hs0 : 0 <= s) (hs1 : s < q) (hrl : rows.length = m) (hm : m <= 4096) (hF : FitsR rows) (hl : LstR w.heap.size w ar cr rows) :
  Calls Tryz.prog 42 #[.agg #[.int .i64 (q : Int), .int .i64 (N : Int), .int .i64 s, .int .i64 r], .slice ar m cr] w fun e w' => ∃ x, e = .returned x /\ OwnR w.heap.size w' x (cll q s r N rows) /\ Below w.heap.size w w' := by
 obtain ⟨W0, hW0⟩ := exE (w.alloc (.cells #[.int .i64 (q : Int), .int .i64 (N : Int), .int .i64 s, .int .i64 r] 39))
 have hb0 := blA hW0
 have hs00 := haA hW0
 obtain ⟨G, hG⟩ := exE (w.heap.size)
 have hG0 : G < W0.heap.size := by have := (Array.getElem?_eq_some_iff.1 hs00).1; omega
 rw [<- hG] at hs00
 have HC : Hid (∀ W, Below W0.heap.size W0 W -> W.cell? ⟨G, 0, none⟩ = some (.int .i64 (q : Int)) /\ W.cell? ⟨G, 1, none⟩ = some (.int .i64 (N : Int)) /\ W.cell? ⟨G, 2, none⟩ = some (.int .i64 s) /\ W.cell? ⟨G, 3, none⟩ = some (.int .i64 r)) := fun W hW => by
  have e1 := (hW.block G hG0).trans hs00
  exact ⟨by simp [World.cell?, e1], by simp [World.cell?, e1], by simp [World.cell?, e1], by simp [World.cell?, e1]⟩
 have HR := hid ((hl.below hb0).mono hb0.size)
 obtain ⟨LG, hLG⟩ := exE (rows.map (vll q s r N))
 have HLG : Hid (LG.length = m /\ (∀ k, k < m -> rat LG k = vll q s r N (rat rows k)) /\ (∀ k, k < m -> LG.take (k + 1) = LG.take k ++ [vll q s r N (rat rows k)]) /\ rows.length = m) := by
  rw [hLG]
  exact ⟨by rw [List.length_map, hrl], fun k hk => rat_map (by omega), fun k hk => take_map_succ (by omega), hrl⟩
 have HVAL : Hid (∀ (W : World) (k c : Nat) (a : Option Addr), k < m -> Lst W.heap.size W a c (rat rows k) -> Calls Tryz.prog 93 #[.agg #[.int .i64 (q : Int), .int .i64 (N : Int), .int .i64 s, .int .i64 r], .slice a (rat rows k).length c] W fun e w' => ∃ ag cg, e = .returned (.slice ag N cg) /\ SlR w' (vll q s r N (rat rows k)) (.slice ag N cg) /\ Below W.heap.size W w') := fun W k c a hk hla => by
  obtain ⟨f1, f2⟩ := hF k (by omega)
  refine (rvalues_any q N c r s a (rat rows k) W h3 h4 (by omega) hN hr0 hr1 hs0 hs1 (by omega) f1 hla.row).mono ?_
  rintro e w' ⟨g, NN, F, rfl, hg, hrow, hle, hFv, hb⟩
  have hvl := vll_len q s r N (rat rows k)
  refine ⟨some ⟨g, 0, none⟩, NN, rfl, ⟨some ⟨g, 0, none⟩, NN, by rw [hvl], ⟨fun i hi => ⟨g, 0, rfl, World.rowIs.lt hrow, ?_⟩, by omega, fun e => by cases e⟩, fun _ => ⟨g, 0, rfl, ?_⟩⟩, hb⟩
  ·rw [hvl] at hi
   rw [Nat.zero_add, hrow.cell (by omega), hFv i hi]
   unfold vll
   rw [ls_at _ _ _ hi]
  ·obtain ⟨cs, e1, _⟩ := hrow
   exact ⟨cs, 3, (0, 0), e1, by decide, by decide, by decide, by decide, by decide, by decide⟩
 have HCL : Hid (∀ j, j < N -> (cll q s r N rows).take (j + 1) = (cll q s r N rows).take j ++ [pgc LG j]) := fun j hj => by
  rw [take_succ_rat (by rw [cll_len]; exact hj), cll_at hj, hLG]
 have HCN : Hid ((cll q s r N rows).length = N) := cll_len _ _ _ _ _
 have HPL : Hid (∀ j, pgc LG j = ls (fun i => zat (rat LG i) j) m) := fun j => by rw [pgc_ls, HLG.out.1]
 have HWID : Hid (∀ i, i < m -> (rat LG i).length = N) := fun i hi => by rw [HLG.out.2.1 i hi, vll_len]
 generalize cll q s r N rows = CC at *
 have HW0 := hid hW0
 have HGE := hid hG
 have HBK := hid hb0
 have hmx : Tryz.prog.follows .mixedOrders = true := by kernel_rfl
 clear hW0 hb0 hs00 hG hl hF hrl hLG hr0 hr1 hs0 hs1
 go_enter Tryz.func42, Tryz.ntmps42
 go_wp2_with fail
 rw [<- HGE.out, <- HW0.out]
 go_loopw [5, 6, 7] (fun lv iv _ wr => ∃ k : Nat, k <= m /\ iv = .int .i64 (k : Int) /\ Hid (OwnR W0.heap.size wr lv (LG.take k) /\ Below W0.heap.size W0 wr)) (fun _ iv _ _ => m - (intOf iv).toNat)
 case atStart => exact ⟨0, Nat.zero_le _, rfl, OwnR.nil _ _, Below.refl _ _⟩
 case round =>
  obtain ⟨k, hk, rfl, hI⟩ := hrel
  have HBI := hid hI.out.2
  have HOI := hid hI.out.1
  clear hI
  by_cases hlt : k < m
  ·have hlt2 : (k : Int) < (m : Int) := by omega
   have hk0 : ¬ (k : Int) < 0 := by omega
   have hks : IntKind.i64.wrap ((k : Int) + 1) = (k : Int) + 1 := by rw [IntKind.wrap_i64]; omega
   obtain ⟨b1, o1, ak, ck, rfl, hb1, hc1, hl1⟩ := HR.out.row k (by rw [HLG.out.2.2.2]; exact hlt)
   have HTK := hid (HLG.out.2.2.1 k hlt)
   have HBD : Hid (Below W0.heap.size W0 wr.drew) := HBI.out.drew
   have HVX := hid (HVAL.out wr.drew k ck ak hlt ((hl1.below HBD.out).mono HBD.out.size))
   obtain ⟨nk, hnk⟩ := exE ((rat rows k).length)
   rw [<- hnk] at hc1 HVX
   have HS5 : Hid (∀ W, Below wr.drew.heap.size wr.drew W -> (W.cell? ⟨G, 0, none⟩ = some (.int .i64 (q : Int)) /\ W.cell? ⟨G, 1, none⟩ = some (.int .i64 (N : Int)) /\ W.cell? ⟨G, 2, none⟩ = some (.int .i64 s) /\ W.cell? ⟨G, 3, none⟩ = some (.int .i64 r)) /\ W.cell? ⟨b1, o1 + k, none⟩ = some (.slice ak nk ck)) := fun W hW => by
    have h1 := HBD.out.trans (hW.mono HBD.out.size)
    exact ⟨HC.out W h1, (h1.cell (p := ⟨b1, o1 + k, none⟩) hb1).trans hc1⟩
   obtain ⟨VV, hVV⟩ := exE (vll q s r N (rat rows k))
   rw [<- hVV] at HVX HTK
   have HOD : Hid (OwnR W0.heap.size wr.drew _ (LG.take k)) := HOI.out.keep (Below.refl _ _).drew
   clear hb1 hc1 hl1 hnk hVV HOI
   go_wp2_with fail
   refine wp_region_held_drew (S := fun W => (W.cell? ⟨G, 0, none⟩ = some (.int .i64 (q : Int)) /\ W.cell? ⟨G, 1, none⟩ = some (.int .i64 (N : Int)) /\ W.cell? ⟨G, 2, none⟩ = some (.int .i64 s) /\ W.cell? ⟨G, 3, none⟩ = some (.int .i64 r)) /\ W.cell? ⟨b1, o1 + k, none⟩ = some (.slice ak nk ck)) (by kernel_rfl) (HS5.out _ (Below.refl _ _)) (fun hHeld => ?_)
   refine tkU 0 (.agg #[.int .i64 (q : Int), .int .i64 (N : Int), .int .i64 s, .int .i64 r]) rfl (fun W hC => by (obtain ⟨⟨x1, x2, x3, x4⟩, x5⟩ := hC); go_simp) hHeld ?_
   simp only [Act.put, aS0, aS1, aS2]
   refine tkU 1 (.slice (some ⟨b1, o1, none⟩) m cr) rfl (fun W hC => by go_simp) hHeld ?_
   simp only [Act.put, aS0, aS1, aS2]
   refine tkU 2 (.int .i64 (k : Int)) rfl (fun W hC => by go_simp) hHeld ?_
   simp only [Act.put, aS0, aS1, aS2]
   refine tkU 3 (.pointer (some ⟨b1, o1 + k, none⟩)) rfl (fun W hC => by go_simp) hHeld ?_
   simp only [Act.put, aS0, aS1, aS2]
   refine tkU 4 (.slice ak nk ck) rfl (fun W hC => by (obtain ⟨⟨x1, x2, x3, x4⟩, x5⟩ := hC); go_simp) hHeld ?_
   simp only [Act.put, aS0, aS1, aS2]
   refine wpAnyH_ready (rs := [5]) (by kernel_rfl) (by simp) ?_
   refine AllReadyH.consU rfl (fun K' hK' => ?_) AllReadyH.nil
   go_simp
   refine (HVX.out).mono ?_
   rintro e w5 ⟨ag, cg, rfl, hsl, hb5⟩
   have HSL := hid hsl
   have H5 : Hid (Below wr.drew.heap.size wr.drew w5) := hb5
   clear hsl hb5
   refine hK'.out _ _ (HS5.out _ H5.out) (fun hHeld => ?_)
   clear hK' K'
   refine tkU 6 (.slice ag N cg) rfl (fun W hC => by go_simp) hHeld ?_
   simp only [Act.put, aS0, aS1, aS2]
   refine wpAnyH_done (by kernel_rfl) ?_ _
   have HO5 := hid (HOD.out.keep H5.out)
   have HB5 : Hid (Below W0.heap.size W0 w5) := HBD.out.trans (H5.out.mono HBD.out.size)
   have HTL : Hid ((LG.take k).length + 1 <= 5864062014805) := by unfold Hid; rw [List.length_take]; omega
   obtain ⟨LK, hLK⟩ := exE (LG.take k)
   rw [<- hLK] at HTK HO5 HTL
   clear HVX HOD hLK HS5 H5
   go_wp2_with (at_builtin; refine wpList_row1 w5 W0.heap.size rfl _ _ rfl _ _ LK VV HO5.out HSL.out rfl rfl HTL.out HB5.out.size ?_)
   intro v6 w6 ho6 hb6 _
   have HR6 : Hid (OwnR W0.heap.size w6 v6 (LG.take (k + 1)) /\ Below W0.heap.size W0 w6) := by
    unfold Hid
    rw [HTK.out]
    exact ⟨ho6, HB5.out.trans hb6⟩
   clear ho6 hb6 HO5 HSL HB5 HBI HBD
   go_wp2_with fail
   go_roundw
   case rel => exact ⟨k + 1, by omega, by go_num, HR6⟩
   case measure => simp [intOf]; omega
  ·obtain rfl : k = m := by omega
   have hlt2 : ¬ (k : Int) < (k : Int) := by omega
   rw [List.take_of_length_le (by rw [HLG.out.1]; exact Nat.le_refl _)] at HOI
   obtain ⟨al, cl, rfl, hll⟩ := OwnR.lst HOI.out
   rw [HLG.out.1]
   obtain ⟨w2, hw2⟩ := exE (wr)
   rw [<- hw2] at hll HBI ⊢
   have HLL := hid hll
   clear hll HOI HVAL HR hw2
   go_wp2_with fail
   go_loopw [8, 9, 10, 11] (fun ov jv _ _ wr => ∃ j : Nat, j <= N /\ jv = .int .i64 (j : Int) /\ Hid (OwnR w2.heap.size wr ov (CC.take j) /\ Below w2.heap.size w2 wr)) (fun _ jv _ _ _ => N - (intOf jv).toNat)
   case atStart => exact ⟨0, Nat.zero_le _, rfl, OwnR.nil _ _, Below.refl _ _⟩
   case round =>
    obtain ⟨j, hj, rfl, hJ⟩ := hrel
    obtain ⟨wj, hwj⟩ := exE (wr)
    rw [<- hwj] at hJ ⊢
    clear hwj
    have HOJ := hid hJ.out.1
    have HBJ := hid hJ.out.2
    clear hJ
    have HBJ0 : Hid (Below W0.heap.size W0 wj) := HBI.out.trans (HBJ.out.mono HBI.out.size)
    obtain ⟨z0, z1, z2, z3⟩ := HC.out wj HBJ0.out
    by_cases hjt : j < N
    ·have hjt2 : (j : Int) < (N : Int) := by omega
     have hj0 : ¬ (j : Int) < 0 := by omega
     have hjs : IntKind.i64.wrap ((j : Int) + 1) = (j : Int) + 1 := by rw [IntKind.wrap_i64]; omega
     obtain ⟨Fc, hFc⟩ : ∃ Fc : Nat -> Int, Fc = fun (i : Nat) => zat (rat LG i) j := ⟨_, rfl⟩
     have HPJ : Hid (pgc LG j = ls Fc k) := by rw [hFc]; exact HPL.out j
     have HRWJ : Hid (∀ i, i < k -> ∃ b2 o2 a3 c3 b3 o3, al = some ⟨b2, o2, none⟩ /\ a3 = some ⟨b3, o3, none⟩ /\ ∀ W, Below w2.heap.size w2 W -> W.cell? ⟨b2, o2 + i, none⟩ = some (.slice a3 N c3) /\ W.cell? ⟨b3, o3 + j, none⟩ = some (.int .i64 (Fc i))) := fun i hi => by
      obtain ⟨b2, o2, a3, c3, e1, e2, e3, e4⟩ := HLL.out.row i (by rw [HLG.out.1]; exact hi)
      rw [HWID.out i hi] at e3
      obtain ⟨b3, o3, e5, e6, e7⟩ := e4.row j (by rw [HWID.out i hi]; exact hjt)
      exact ⟨b2, o2, a3, c3, b3, o3, e1, e5, fun W hW => ⟨(hW.cell (p := ⟨b2, o2 + i, none⟩) e2).trans e3, by rw [hFc]; exact (hW.cell (p := ⟨b3, o3 + j, none⟩) e6).trans e7⟩⟩
     clear hFc
     go_wp2_with fail
     clear z0 z1 z2 z3
     go_loopw [10, 11] (fun cv iv wr => ∃ i : Nat, i <= k /\ iv = .int .i64 (i : Int) /\ Hid (wr.ownsRow wj.heap.size 3 1 cv (ls Fc i).length ((ls Fc i).map (Value.int .i64)) /\ Below wj.heap.size wj wr)) (fun _ iv _ => k - (intOf iv).toNat)
     case atStart => exact ⟨0, Nat.zero_le _, rfl, World.ownsRow_nil _ _ _ _, Below.refl _ _⟩
     case round =>
      obtain ⟨i, hi, rfl, hT⟩ := hrel
      by_cases hik : i < k
      ·have hik2 : (i : Int) < (k : Int) := by omega
       have hi0 : ¬ (i : Int) < 0 := by omega
       have his : IntKind.i64.wrap ((i : Int) + 1) = (i : Int) + 1 := by rw [IntKind.wrap_i64]; omega
       obtain ⟨b2, o2, a3, c3, b3, o3, rfl, rfl, hrow⟩ := HRWJ.out i hik
       obtain ⟨y1, y2⟩ := hrow wr (HBJ.out.trans (hT.out.2.mono HBJ.out.size))
       have HLSJ : Hid (ls Fc (i + 1) = ls Fc i ++ [Fc i] /\ (ls Fc i).length = i) := ⟨ls_succ _ _, ls_len _ _⟩
       obtain ⟨E, hE⟩ := exE (Fc i)
       rw [<- hE] at HLSJ y2
       obtain ⟨lj, hlj⟩ := exE (ls Fc i)
       rw [<- hlj] at HLSJ hT
       have HB10 := hid hT.out.2
       have HO9 : Hid ((wr.alloc (.cells #[.int .i64 E] 3)).ownsRow wj.heap.size 3 1 _ lj.length (lj.map (Value.int .i64))) := World.ownsRow.alloc hT.out.1 _
       have HCC : Hid ((wr.alloc (.cells #[.int .i64 E] 3)).cell? ⟨wr.heap.size, 0, none⟩ = some (.int .i64 E)) := by unfold Hid; simp
       have HSS : Hid (wj.heap.size <= (wr.alloc (.cells #[.int .i64 E] 3)).heap.size) := by have := HB10.out.size; unfold Hid; simp; omega
       have HBA9 : Hid (Below wj.heap.size wj (wr.alloc (.cells #[.int .i64 E] 3))) := HB10.out.alloc HB10.out.size _
       have HLJ : Hid (lj.length + 1 <= 17592186044416) := by have := HLSJ.out.2; unfold Hid; omega
       have HLE : Hid (Lst (wr.alloc (.cells #[.int .i64 E] 3)).heap.size (wr.alloc (.cells #[.int .i64 E] 3)) (some ⟨wr.heap.size, 0, none⟩) 1 [E]) := ⟨fun x hx => ⟨wr.heap.size, 0, rfl, by simp, by
        obtain rfl : x = 0 := by simp at hx; exact hx
        exact HCC.out⟩, by simp, fun e => by cases e⟩
       clear hT hlj hE hrow
       go_wp2_with (at_builtin; refine wpList_appendL (wr.alloc (.cells #[.int .i64 E] 3)) wj.heap.size _ rfl _ _ rfl _ rfl lj [E] HO9.out (some ⟨wr.heap.size, 0, none⟩) 1 rfl HLJ.out HSS.out HLE.out ?_)
       intro v11 w11 ho11 hb11
       have HR11 : Hid (w11.ownsRow wj.heap.size 3 1 v11 (ls Fc (i + 1)).length ((ls Fc (i + 1)).map (Value.int .i64)) /\ Below wj.heap.size wj w11) := by
        unfold Hid
        rw [HLSJ.out.1]
        refine ⟨?_, HBA9.out.trans hb11⟩
        rw [List.length_append, List.map_append]
        exact ho11
       clear ho11 hb11 HO9 HCC HSS HBA9 HLE y1 y2
       go_wp2_with fail
       go_roundw
       case rel => exact ⟨i + 1, by omega, by go_num, HR11⟩
       case measure => simp [intOf]; omega
      ·obtain rfl : i = k := by omega
       have hik2 : ¬ (i : Int) < (i : Int) := by omega
       have HTB := hid hT.out.2
       have hsl := slr_of_owns hT.out.1
       rw [<- HPJ.out] at hsl
       obtain ⟨ac, cc, rfl, _⟩ := hsl.lst
       have HSL := hid hsl
       have HOW := hid (HOJ.out.keep hT.out.2)
       have HBW : Hid (Below w2.heap.size w2 wr) := HBJ.out.trans (hT.out.2.mono HBJ.out.size)
       have HTL : Hid ((CC.take j).length + 1 <= 5864062014805) := by unfold Hid; rw [List.length_take]; omega
       have HTK := hid (HCL.out j hjt)
       obtain ⟨LK, hLK⟩ := exE (CC.take j)
       rw [<- hLK] at HTK HOW HTL
       obtain ⟨PP, hPP⟩ := exE (pgc LG j)
       rw [<- hPP] at HTK HSL ⊢
       clear hT hsl hLK hPP HPJ HOJ
       go_wp2_with (at_builtin; refine wpList_row1 wr w2.heap.size rfl _ _ rfl _ _ LK PP HOW.out HSL.out rfl rfl HTL.out HBW.out.size ?_)
       intro v6 w6 ho6 hb6 _
       have HR6 : Hid (OwnR w2.heap.size w6 v6 (CC.take (j + 1)) /\ Below w2.heap.size w2 w6) := by
        unfold Hid
        rw [HTK.out]
        exact ⟨ho6, HBW.out.trans hb6⟩
       clear ho6 hb6 HOW HSL HBW
       go_wp2_with fail
       go_roundw
       case rel => exact ⟨j + 1, by omega, by go_num, HR6⟩
       case measure => simp [intOf]; omega
    ·obtain rfl : j = N := by omega
     have hjt2 : ¬ (j : Int) < (j : Int) := by omega
     rw [List.take_of_length_le (by rw [HCN.out]; exact Nat.le_refl _)] at HOJ
     have HE : Hid (OwnR w.heap.size wj _ CC /\ Below w.heap.size w wj) := ⟨HOJ.out.mono (Nat.le_trans HBK.out.size HBI.out.size), HBK.out.trans (HBJ0.out.mono HBK.out.size)⟩
     clear HOJ
     go_wp2_with fail
     go_ret
     exact ⟨_, rfl, HE.out.1, HE.out.2⟩
def sx (a b c d e f : Value) : Nat -> Value
 | 0 => a
 | 1 => b
 | 2 => c
 | 3 => d
 | 4 => e
 | _ => f
theorem sx_new (w : World) (t : TypeId) (a b c d e f : Value) : (w.alloc (.cells #[a, b, c, d, e, f] t)).rowIs w.heap.size t 6 (sx a b c d e f) :=
 ⟨_, heap_alloc_new w _, rfl, fun i hi => by
  have : i = 0 ∨ i = 1 ∨ i = 2 ∨ i = 3 ∨ i = 4 ∨ i = 5 := by omega
  rcases this with rfl | rfl | rfl | rfl | rfl | rfl <;> rfl⟩
theorem sx_arr {W : World} {g : Nat} {t : TypeId} {a b c d e f : Value} (h : W.rowIs g t 6 (sx a b c d e f)) : W.heap[g]? = some (.cells #[a, b, c, d, e, f] t (0, 0)) := by
 obtain ⟨cs, h1, h2, h3⟩ := h
 rw [h1]
 have : cs = #[a, b, c, d, e, f] := by
  apply Array.ext_getElem?
  intro i
  by_cases hi : i < 6
  ·rw [h3 i hi]
   have : i = 0 ∨ i = 1 ∨ i = 2 ∨ i = 3 ∨ i = 4 ∨ i = 5 := by omega
   rcases this with rfl | rfl | rfl | rfl | rfl | rfl <;> rfl
  ·rw [Array.getElem?_eq_none (by omega), Array.getElem?_eq_none (by simp; omega)]
 rw [this]
def IsS (v : Value) : Prop := ∃ a n c, v = .slice a n c
theorem isS (a : Option Addr) (n c : Nat) : IsS (.slice a n c) := ⟨a, n, c, rfl⟩
def AlS (F : Nat -> Value) : Prop := ∀ i, i < 6 -> IsS (F i)
theorem alS {a b c d e f : Value} (h0 : IsS a) (h1 : IsS b) (h2 : IsS c) (h3 : IsS d) (h4 : IsS e) (h5 : IsS f) : AlS (sx a b c d e f) := fun i hi => by
 have : i = 0 ∨ i = 1 ∨ i = 2 ∨ i = 3 ∨ i = 4 ∨ i = 5 := by omega
 rcases this with rfl | rfl | rfl | rfl | rfl | rfl
 ·exact h0
 ·exact h1
 ·exact h2
 ·exact h3
 ·exact h4
 ·exact h5
theorem sx_set0 {W : World} {g : Nat} {t : TypeId} {a b c d e f : Value} (h : W.rowIs g t 6 (sx a b c d e f)) (x : Value) : (W.setCell ⟨g, 0, none⟩ x).rowIs g t 6 (sx x b c d e f) :=
 World.rowIs.congr (World.rowIs.set h 0 x) (fun i hi => by
  have : i = 0 ∨ i = 1 ∨ i = 2 ∨ i = 3 ∨ i = 4 ∨ i = 5 := by omega
  rcases this with rfl | rfl | rfl | rfl | rfl | rfl <;> rfl)
theorem sx_set1 {W : World} {g : Nat} {t : TypeId} {a b c d e f : Value} (h : W.rowIs g t 6 (sx a b c d e f)) (x : Value) : (W.setCell ⟨g, 1, none⟩ x).rowIs g t 6 (sx a x c d e f) :=
 World.rowIs.congr (World.rowIs.set h 1 x) (fun i hi => by
  have : i = 0 ∨ i = 1 ∨ i = 2 ∨ i = 3 ∨ i = 4 ∨ i = 5 := by omega
  rcases this with rfl | rfl | rfl | rfl | rfl | rfl <;> rfl)
theorem sx_set2 {W : World} {g : Nat} {t : TypeId} {a b c d e f : Value} (h : W.rowIs g t 6 (sx a b c d e f)) (x : Value) : (W.setCell ⟨g, 2, none⟩ x).rowIs g t 6 (sx a b x d e f) :=
 World.rowIs.congr (World.rowIs.set h 2 x) (fun i hi => by
  have : i = 0 ∨ i = 1 ∨ i = 2 ∨ i = 3 ∨ i = 4 ∨ i = 5 := by omega
  rcases this with rfl | rfl | rfl | rfl | rfl | rfl <;> rfl)
theorem sx_set3 {W : World} {g : Nat} {t : TypeId} {a b c d e f : Value} (h : W.rowIs g t 6 (sx a b c d e f)) (x : Value) : (W.setCell ⟨g, 3, none⟩ x).rowIs g t 6 (sx a b c x e f) :=
 World.rowIs.congr (World.rowIs.set h 3 x) (fun i hi => by
  have : i = 0 ∨ i = 1 ∨ i = 2 ∨ i = 3 ∨ i = 4 ∨ i = 5 := by omega
  rcases this with rfl | rfl | rfl | rfl | rfl | rfl <;> rfl)
theorem sx_set4 {W : World} {g : Nat} {t : TypeId} {a b c d e f : Value} (h : W.rowIs g t 6 (sx a b c d e f)) (x : Value) : (W.setCell ⟨g, 4, none⟩ x).rowIs g t 6 (sx a b c d x f) :=
 World.rowIs.congr (World.rowIs.set h 4 x) (fun i hi => by
  have : i = 0 ∨ i = 1 ∨ i = 2 ∨ i = 3 ∨ i = 4 ∨ i = 5 := by omega
  rcases this with rfl | rfl | rfl | rfl | rfl | rfl <;> rfl)
theorem sx_set5 {W : World} {g : Nat} {t : TypeId} {a b c d e f : Value} (h : W.rowIs g t 6 (sx a b c d e f)) (x : Value) : (W.setCell ⟨g, 5, none⟩ x).rowIs g t 6 (sx a b c d e x) :=
 World.rowIs.congr (World.rowIs.set h 5 x) (fun i hi => by
  have : i = 0 ∨ i = 1 ∨ i = 2 ∨ i = 3 ∨ i = 4 ∨ i = 5 := by omega
  rcases this with rfl | rfl | rfl | rfl | rfl | rfl <;> rfl)
theorem ne_lists {w : World} {O b o : Nat} {t : TypeId} {F : Nat -> Value} {x : Int} (hO : w.rowIs O t 6 F) (hF : AlS F) (h : w.cell? ⟨b, o, none⟩ = some (.int .i64 x)) : b ≠ O := by
 rintro rfl
 obtain ⟨cs, h1, h2, h3⟩ := hO
 have e : w.cell? ⟨b, o, none⟩ = cs[o]? := by simp [World.cell?, h1]
 rw [e] at h
 by_cases ho : o < 6
 ·rw [h3 o ho] at h
  obtain ⟨a, n, c, e2⟩ := hF o ho
  rw [e2] at h
  injection h with h
  cases h
 ·rw [Array.getElem?_eq_none (by omega)] at h
  cases h
theorem lst_setP {n0 : Nat} {w : World} {O i : Nat} {t : TypeId} {F : Nat -> Value} {v : Value} {a : Option Addr} {c : Nat} {r : List Int} (h : Lst n0 w a c r) (hO : w.rowIs O t 6 F) (hF : AlS F) : Lst n0 (w.setCell ⟨O, i, none⟩ v) a c r :=
 ⟨fun k hk => by
  obtain ⟨b, o, e1, e2, e3⟩ := h.row k hk
  have hne := ne_lists hO hF e3
  exact ⟨b, o, e1, e2, (World.cell?_of_block (w := w) (a := ⟨b, o + k, none⟩) (Below.heap_setCell _ _ _ _ (by show b ≠ O; exact hne))).trans e3⟩, h.room, h.nil⟩
theorem SlR.setP {w : World} {O i : Nat} {t : TypeId} {F : Nat -> Value} {v u : Value} {r : List Int} (h : SlR w r u) (hO : w.rowIs O t 6 F) (hF : AlS F) : SlR (w.setCell ⟨O, i, none⟩ v) r u := by
 obtain ⟨a, c, rfl, hl, hn⟩ := h
 have hs : (w.setCell ⟨O, i, none⟩ v).heap.size = w.heap.size := by simp [World.setCell]
 refine ⟨a, c, rfl, by rw [hs]; exact lst_setP hl hO hF, fun h0 => ?_⟩
 obtain ⟨b, o, rfl, c', t', f', g1, g2⟩ := hn h0
 obtain ⟨b2, o2, e1, e2, e3⟩ := hl.row 0 h0
 cases e1
 have hne := ne_lists hO hF e3
 exact ⟨b, o, rfl, c', t', f', (Below.heap_setCell _ _ _ _ (by show b ≠ O; exact hne)).trans g1, g2⟩
theorem own_setP {base O i n : Nat} {w : World} {F : Nat -> Value} {v u : Value} {xs : List Value} (h : w.ownsRow base 22 1 u n xs) (hO : w.rowIs O 33 6 F) : (w.setCell ⟨O, i, none⟩ v).ownsRow base 22 1 u n xs := by
 refine h.kept (row := some O) (gb_setCell (gb_refl _ _) i v) ?_
 rcases h.2 with ⟨rfl, _⟩ | ⟨g, cap, cur, rfl, hb, hg, _⟩
 ·exact .inl rfl
 ·refine .inr (fun e => ?_)
  obtain ⟨cs, h1, _, _⟩ := hO
  have e2 : g = O := by simpa [Value.ownBlock] using e
  rw [<- e2, hg] at h1
  simp at h1
theorem OwnR.setP {base O i : Nat} {w : World} {F : Nat -> Value} {v u : Value} {rs : List (List Int)} (h : OwnR base w u rs) (hO : w.rowIs O 33 6 F) (hF : AlS F) : OwnR base (w.setCell ⟨O, i, none⟩ v) u rs := by
 obtain ⟨vals, h1, h2⟩ := h
 refine ⟨vals, own_setP h1 hO, fun j hj => ?_⟩
 obtain ⟨x, e1, e2⟩ := h2 j hj
 exact ⟨x, e1, e2.setP hO hF⟩
theorem SlR.rstep {w w' : World} {q rc : Nat} {D r : List Int} {u : Value} (h : SlR w r u) (hc : RCh q w rc D) (e : w.grownBy w' (some rc)) : SlR w' r u :=
 h.blocks e.size (fun b hb hn => gb_blk e hb (by
  rintro rfl
  obtain ⟨_, _, h1, _⟩ := hc
  obtain ⟨c, t, f, h2, h3⟩ := hn
  rw [h1] at h2
  cases h2
  exact h3.2.2.2.1 rfl))
theorem own_rstep {base n q rc : Nat} {w w' : World} {D : List Int} {u : Value} {xs : List Value} (h : w.ownsRow base 22 1 u n xs) (hc : RCh q w rc D) (e : w.grownBy w' (some rc)) : w'.ownsRow base 22 1 u n xs := by
 refine h.kept (row := some rc) e ?_
 rcases h.2 with ⟨rfl, _⟩ | ⟨g, cap, cur, rfl, hb, hg, _⟩
 ·exact .inl rfl
 ·refine .inr (fun e => ?_)
  obtain ⟨_, _, h1, _⟩ := hc
  have e2 : g = rc := by simpa [Value.ownBlock] using e
  rw [<- e2, hg] at h1
  simp at h1
theorem OwnR.rstep {base q rc : Nat} {w w' : World} {D : List Int} {u : Value} {rs : List (List Int)} (h : OwnR base w u rs) (hc : RCh q w rc D) (e : w.grownBy w' (some rc)) : OwnR base w' u rs := by
 obtain ⟨vals, h1, h2⟩ := h
 refine ⟨vals, own_rstep h1 hc e, fun j hj => ?_⟩
 obtain ⟨x, e1, e2⟩ := h2 j hj
 exact ⟨x, e1, e2.rstep hc e⟩
theorem across_pow (p b B0 B1 cap m : Nat) (r : Int) (a : Option Addr) (rows : List (List Int)) (w : World) (h3 : 3 <= p) (hm : p <= 2147483647) (hp : w.cell? ⟨b, 0, none⟩ = some (.int .i64 p)) (k0 : w.cell? ⟨B0, 0, none⟩ = some (.pointer (some ⟨b, 0, none⟩))) (k1 : w.cell? ⟨B1, 0, none⟩ = some (.int .i64 r))
  (hr1 : -9223372036854775808 <= r) (hr2 : r <= 9223372036854775807) (h1 : 1 <= rows.length) (hn : rows.length <= 17592186044000) (hm2 : m <= 17592186044000) (hF : FitsR rows) (hwi : ∀ k, k < rows.length -> (rat rows k).length = m) (hl : LstR w.heap.size w a cap rows) :
  Calls Tryz.prog 82 #[.slice a rows.length cap, .func (.func 107) #[] #[.pointer (some ⟨B0, 0, none⟩), .pointer (some ⟨B1, 0, none⟩)]] w fun e w' => e = .returned (.slice (some ⟨w.heap.size, 0, none⟩) m m) /\ SlR w' (smr p rows.length (pwl p r rows.length) rows m) (.slice (some ⟨w.heap.size, 0, none⟩) m m) /\ Below w.heap.size w w' := by
 refine (pacross_any 107 cap m #[.pointer (some ⟨B0, 0, none⟩), .pointer (some ⟨B1, 0, none⟩)] (fun l => evz p l r) a rows w h1 hn hm2 hwi hl
  (enters_of Tryz.func107 (by kernel_rfl) (by kernel_rfl))
  (fun W2 g j hW2 hj hA => by
   have hq := powq_any p b B0 B1 rows.length r (some ⟨g, 0, none⟩) (pgc rows j) W2 h3 hm ((hW2.cell (p := ⟨b, 0, none⟩) (heap_lt hp)).trans hp) ((hW2.cell (p := ⟨B0, 0, none⟩) (heap_lt k0)).trans k0) ((hW2.cell (p := ⟨B1, 0, none⟩) (heap_lt k1)).trans k1)
    (by rw [pgc_len]; omega) (pgc_fits hF j) hr1 hr2 (fun k hk => ⟨g, 0, rfl, hA.lt, by rw [Nat.zero_add]; exact hA.cell (by rw [pgc_len] at hk; exact hk)⟩)
   rw [pgc_len] at hq
   exact hq)).mono ?_
 rintro e w' ⟨rfl, hA, hb⟩
 refine ⟨rfl, slr_pm (hA.congr (fun j hj => ?_)) (smr_len _ _ _ _ _), hb⟩
 unfold smr
 rw [ls_at _ _ _ hj]
 have h := evz_dtz h3 (pgc rows j) r
 rw [pgc_len] at h
 exact h
theorem across_ext (p b lo B0 B1 cap m : Nat) (L : List Int) (a : Option Addr) (rows : List (List Int)) (w : World) (h3 : 3 <= p) (hm : p <= 2147483647) (hp : w.cell? ⟨b, 0, none⟩ = some (.int .i64 p)) (hX : ExQ w lo B0 B1 b L) (hLl : L.length = rows.length) (hfL : Fits L)
  (h1 : 1 <= rows.length) (hn : rows.length <= 17592186044000) (hm2 : m <= 17592186044000) (hF : FitsR rows) (hwi : ∀ k, k < rows.length -> (rat rows k).length = m) (hl : LstR w.heap.size w a cap rows) :
  Calls Tryz.prog 82 #[.slice a rows.length cap, .func (.func 85) #[] #[.pointer (some ⟨B0, 0, none⟩), .pointer (some ⟨B1, 0, none⟩)]] w fun e w' => e = .returned (.slice (some ⟨w.heap.size, 0, none⟩) m m) /\ SlR w' (smr p rows.length L rows m) (.slice (some ⟨w.heap.size, 0, none⟩) m m) /\ Below w.heap.size w w' := by
 refine (pacross_any 85 cap m #[.pointer (some ⟨B0, 0, none⟩), .pointer (some ⟨B1, 0, none⟩)] (fun l => dtz p l.length l L) a rows w h1 hn hm2 hwi hl
  (enters_of Tryz.func85 (by kernel_rfl) (by kernel_rfl))
  (fun W2 g j hW2 hj hA => by
   have hq := extq_any p b lo B0 B1 rows.length (some ⟨g, 0, none⟩) (pgc rows j) L W2 h3 hm ((hW2.cell (p := ⟨b, 0, none⟩) (heap_lt hp)).trans hp) (hX.below hW2) (by rw [pgc_len]; omega) (by rw [pgc_len]; omega) (pgc_fits hF j) hfL (fun k hk => ⟨g, 0, rfl, hA.lt, by rw [Nat.zero_add]; exact hA.cell (by rw [pgc_len] at hk; exact hk)⟩)
   rw [pgc_len] at hq ⊢
   exact hq)).mono ?_
 rintro e w' ⟨rfl, hA, hb⟩
 refine ⟨rfl, slr_pm (hA.congr (fun j hj => ?_)) (smr_len _ _ _ _ _), hb⟩
 unfold smr
 rw [ls_at _ _ _ hj, dtz_comm, pgc_len]
theorem treeroot_own (q n d b s cap : Nat) (a : Option Addr) (rows : List (List Int)) (w : World) (ok : SpgOk q n d) (hs : SpgAt w s b q n d) (h1 : 1 <= rows.length) (h2 : rows.length <= 65536) (hfr : FitsR rows) (hl : LstR w.heap.size w a cap rows) :
  Calls Tryz.prog 74 #[.pointer (some ⟨s, 0, none⟩), .slice a rows.length cap] w fun e w' => ∃ a c, e = .returned (.tuple #[.slice a 4 c, .nilIface]) /\ SlR w' (rtf q n rows.length rows) (.slice a 4 c) /\ Below w.heap.size w w' := by
 have HO := hid (open_any q n d b s cap 0 a none rows [] w ok hs h1 h2 (by simp) hfr hl (fun k hk => by simp at hk) (by simp))
 have hnd := ndf_nil q n rows h1
 have HND := hid hnd
 clear ok hs hfr hl
 rw [List.length_nil] at HO
 have HO2 : Hid (Calls Tryz.prog 83 #[.pointer (some ⟨s, 0, none⟩), .slice a rows.length cap, .slice none 0 0] w fun e w' => ∃ bn on ap ar cp cr cn an0 c0, e = .returned (.tuple #[.agg #[.slice ap 0 cp, .slice ar 0 cr, .slice (some ⟨bn, on, none⟩) 1 cn], .nilIface]) /\ w'.cell? ⟨bn, on + 0, none⟩ = some (.slice an0 4 c0) /\ bn < w'.heap.size /\ SlR w' (rtf q n rows.length rows) (.slice an0 4 c0) /\ Below w.heap.size w w') := by
  refine HO.out.mono ?_
  rintro e w' ⟨os, ap, ar, an', cp, cr, cn, rfl, hos, hp, hr, hn, hb⟩
  have := once_nil hos
  subst this
  rw [hnd] at hn ⊢
  obtain ⟨vals, ho, hv⟩ := hn
  rcases ho.2 with ⟨e1, h0⟩ | ⟨g, cap, cur, e1, hb', hg, _, _, _, _⟩
  ·simp at h0
  ·cases e1
   obtain ⟨u, h3', h4'⟩ := hv 0 (by simp)
   obtain ⟨ak, ck, rfl, _⟩ := h4'.lst
   have hl4 : (rat [rtf q n rows.length rows] 0).length = 4 := rtf_len q n _ _ h1
   rw [hl4] at h3' h4'
   have hcn := ho.cellAt 0 (by simp)
   rw [h3'] at hcn
   exact ⟨g, 0, ap, ar, cp, cr, cn, ak, ck, rfl, hcn, (Array.getElem?_eq_some_iff.1 hg).1, h4', hb⟩
 clear HO hnd
 go_enter Tryz.func74, Tryz.ntmps74
 go_wp2_with fail
 refine HO2.out.mono ?_
 rintro e w1 ⟨bn, on, ap, ar, cp, cr, cn, an0, c0, rfl, hcn, hbn, hl0, hb1⟩
 have HBX : Hid (Below w1.heap.size w1 (w1.alloc (.cells #[.slice ap 0 cp, .slice ar 0 cr, .slice (some ⟨bn, on, none⟩) 1 cn] 31))) := (Below.refl _ _).alloc (Nat.le_refl _) _
 have HB := hid (hb1.trans (HBX.out.mono hb1.size))
 have HL := hid (hl0.keep HBX.out)
 have hc1 := (HBX.out.cell (p := ⟨bn, on + 0, none⟩) hbn).trans hcn
 have HO1 := hid (tri_new w1 31 (.slice ap 0 cp) (.slice ar 0 cr) (.slice (some ⟨bn, on, none⟩) 1 cn))
 have k2 := HO1.out.cell (i := 2) (by omega)
 simp only [tri] at k2
 rw [Nat.add_zero] at hc1
 clear hcn hl0 hb1
 go_wp2_with fail
 go_ret2
 exact ⟨an0, c0, rfl, HL.out, HB.out⟩
theorem pch_typ {N0 q n : Nat} {w : World} {c : Nat} {D : List Int} (h : PCh N0 q n w c D) : ∃ cs f, w.heap[c]? = some (.cells cs 84 f) := by
 obtain ⟨s, b, d, _, _, _, _, _, h6⟩ := h
 exact ⟨_, _, h6⟩
theorem PCh.setP {N0 q n : Nat} {W : World} {c O i : Nat} {D : List Int} {F : Nat -> Value} {v : Value} (h : PCh N0 q n W c D) (hO : W.rowIs O 33 6 F) (hN : N0 <= O) : PCh N0 q n (W.setCell ⟨O, i, none⟩ v) c D := by
 obtain ⟨cs, f, h1⟩ := pch_typ h
 obtain ⟨cs2, h2, _, _⟩ := hO
 have hne : c ≠ O := by
  rintro rfl
  rw [h1] at h2
  injection h2 with h2
  injection h2 with _ h2 _
  exact absurd h2 (by decide)
 exact h.blocks (Below.heap_setCell _ _ _ _ (by show c ≠ O; exact hne)) (fun b hb => Below.heap_setCell _ _ _ _ (by show b ≠ O; omega))
theorem SlR.pstep {w w' : World} {N0 q n c : Nat} {D r : List Int} {u : Value} (h : SlR w r u) (hc : PCh N0 q n w c D) (e : w.grownBy w' (some c)) : SlR w' r u :=
 h.blocks e.size (fun b hb hn => gb_blk e hb (by
  rintro rfl
  obtain ⟨cs, f', h1⟩ := pch_typ hc
  obtain ⟨c, t, f, h2, h3⟩ := hn
  rw [h1] at h2
  cases h2
  revert h3
  decide))
theorem own_pstep {base n N0 q m c : Nat} {w w' : World} {D : List Int} {u : Value} {xs : List Value} (h : w.ownsRow base 22 1 u n xs) (hc : PCh N0 q m w c D) (e : w.grownBy w' (some c)) : w'.ownsRow base 22 1 u n xs := by
 refine h.kept (row := some c) e ?_
 rcases h.2 with ⟨rfl, _⟩ | ⟨g, cap, cur, rfl, hb, hg, _⟩
 ·exact .inl rfl
 ·refine .inr (fun e => ?_)
  obtain ⟨cs, f', h1⟩ := pch_typ hc
  have e2 : g = c := by simpa [Value.ownBlock] using e
  rw [<- e2, hg] at h1
  simp at h1
theorem OwnR.pstep {base N0 q n c : Nat} {w w' : World} {D : List Int} {u : Value} {rs : List (List Int)} (h : OwnR base w u rs) (hc : PCh N0 q n w c D) (e : w.grownBy w' (some c)) : OwnR base w' u rs := by
 obtain ⟨vals, h1, h2⟩ := h
 refine ⟨vals, own_pstep h1 hc e, fun j hj => ?_⟩
 obtain ⟨x, e1, e2⟩ := h2 j hj
 exact ⟨x, e1, e2.pstep hc e⟩
end Go.Proofs.YtlhjifpomchnfaaGreatDoor
