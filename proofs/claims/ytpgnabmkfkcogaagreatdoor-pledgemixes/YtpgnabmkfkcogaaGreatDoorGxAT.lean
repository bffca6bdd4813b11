/- attestref12: Rows, Columns, Root. Package code: Is, Distance; the reference's Distance. -/
import Derived.Test.YtpgnabmkfkcogaaGreatDoorGxAS
import Derived.Test.YtpgnabmkfkcogaaGreatDoorDoms
import Derived.Test.YtpgnabmkfkcogaaGreatDoorGxAG
namespace Go.Proofs.YtpgnabmkfkcogaaGreatDoor
open Go.RowKit

theorem wpList_append_runP {ops : Array Oper} {rest : List Oper} {o : Oper} {a : Act} {w w2 : World} {Q : Exit → Act → World → Prop} (hgd : o.guard = none) (s x : Operand) (tS tX : TypeId)
    (ho : o.op = .call { callee := .builtin .append, args := #[s, x], argTypes := #[tS, tX] }) (v u r : Value) (hs : a.eval s = v) (hx : a.eval x = u) (hrun : (Builtin.append_ #[tS, tX] o.type #[v, u]).run Tryz.prog w = .ok r w2)
    (h : wpList Tryz.prog ops Q rest (a.put o.dst r) w2) : wpList Tryz.prog ops Q (o :: rest) a w := by
  refine wpList_plain hgd fun K hK => ?_
  unfold Oper.wp
  simp [execOp, ho, resolve, invoke, builtin, hs, hx, hrun, Result.andThen]
  exact hK _ _ h
/-- one value appended to lists of one's own -/
theorem own_push {base n : Nat} {W : World} {v u : Value} {vals : List Value} (h : W.ownsRow base 23 1 v n vals) (hu : u.oneCell' = true) (hlen : n ≤ 1000000) (hbase : base ≤ W.heap.size) :
    ∃ v' w5, (Builtin.append_ #[22, 22] 22 #[v, .slice (some ⟨W.heap.size, 0, none⟩) 1 1]).run Tryz.prog (W.alloc (.cells #[u] 23)) = .ok v' w5 ∧ w5.ownsRow base 23 1 v' (n + 1) (vals ++ [u]) ∧ Below base W w5 := by
  obtain ⟨i0, hi, hz0, hz1, hz2⟩ := info_parts Tryz.infoSl
  have hba : Below base W (W.alloc (.cells #[u] 23)) := (Below.refl _ _).alloc hbase _
  have ha := World.ownsRow.alloc h (.cells #[u] 23)
  obtain ⟨v', w5, hrun, hown2, hgrow, _, _⟩ := run_append_own_at (W.alloc (.cells #[u] 23)) base 22 22 23 i0 _ 1 24 Tryz.underlying22 hi hz0 hz1 hz2 rfl (by decide) v _ _ ha ⟨W.heap.size, 0, none⟩ 1 1 [u] rfl (cell_one_new _ _ _) (by intro t ht; simp at ht; subst ht; exact hu) (by unfold maxLen; omega) (by omega) (by simp; omega)
  exact ⟨v', w5, hrun, hown2, hba.trans ((Below.refl base _).grown hgrow (by simp; omega) (fun k hk => (ha.lt k hk).1))⟩
/-- a part of a list, with the room behind it -/
def chr (ap o cp st j : Nat) : Value := .slice (some ⟨ap, o + st * j, none⟩) st (cp - st * j)
theorem rows_of_ownsR {base ap o cp st m : Nat} {w : World} {v : Value} {t : List Int} (ht : t.length = st * m) (hcp : st * m ≤ cp) (h : w.ownsRow base 23 1 v m ((List.range m).map (chr ap o cp st))) (hr : RowB w.heap.size w (some ⟨ap, o, none⟩) t) : ∃ a c, v = .slice a m c ∧ LstR w.heap.size w a c (rwl st m t) := by
  rcases h.2 with ⟨rfl, h0⟩ | ⟨g, cap, cur, rfl, hb, hg, hn, hm, hs, hx⟩
  · subst h0
    exact ⟨none, 0, rfl, fun k hk => by rw [rwl_len] at hk; omega, by rw [rwl_len]; omega, fun _ => rfl⟩
  · refine ⟨some ⟨g, 0, none⟩, cap, rfl, fun k hk => ?_, by rw [rwl_len]; exact hn, fun e => by cases e⟩
    rw [rwl_len] at hk
    have h1 : st * (k + 1) ≤ st * m := Nat.mul_le_mul_left _ (by omega)
    rw [Nat.mul_succ] at h1
    refine ⟨g, 0, some ⟨ap, o + st * k, none⟩, cp - st * k, rfl, (Array.getElem?_eq_some_iff.1 hg).1, ?_, ⟨fun i hi => ?_, by rw [rwl_wide ht hk]; omega, fun e => by cases e⟩⟩
    · rw [Nat.zero_add, h.cellAt k (by omega), rwl_wide ht hk]
      simp [chr, hk]
    · rw [rwl_wide ht hk] at hi
      obtain ⟨b, o', e1, e2, e3⟩ := hr (st * k + i) (by omega)
      cases e1
      exact ⟨ap, o + st * k, rfl, e2, by rw [rwl_zat hk hi, Nat.add_assoc]; exact e3⟩
theorem pgc_ls (rows : List (List Int)) (j : Nat) : pgc rows j = ls (fun i => zat (rat rows i) j) rows.length := by
  unfold pgc ls
  refine List.ext_getElem (by simp) (fun i h1 h2 => ?_)
  rw [List.getElem_map, List.getElem_map, List.getElem_range]
  unfold rat
  rw [List.getD_eq_getElem?_getD, List.getElem?_eq_getElem (by simpa using h1)]
  rfl

set_option maxRecDepth 100000 in
set_option maxHeartbeats 2000000 in
theorem rrows12_own (v ap o cp m : Nat) (t : List Int) (w : World) (hv : v ≤ 12) (ht : t.length = 2 ^ v) (hm : 2 ^ v = 2 ^ (v - v / 2) * m) (hl : Lst w.heap.size w (some ⟨ap, o, none⟩) cp t) :
    Calls Tryz.prog 53 #[.slice (some ⟨ap, o, none⟩) (2 ^ v) cp, .int .i64 (v : Int)] w fun e w' => ∃ x, e = .returned x ∧ w'.ownsRow w.heap.size 23 1 x m ((List.range m).map (chr ap o cp (2 ^ (v - v / 2)))) ∧ Below w.heap.size w w' := by
  have hle : 2 ^ v ≤ 4096 := by have := Nat.pow_le_pow_right (show 0 < 2 by omega) hv; omega
  have hst1 : 1 ≤ 2 ^ (v - v / 2) := Nat.one_le_two_pow
  have hmle : m ≤ 2 ^ v := by rw [hm]; exact Nat.le_mul_of_pos_left _ hst1
  have HTW := hid (fun W => rtwo_any (v - v / 2) W (by omega))
  obtain ⟨lo, hlo⟩ : ∃ lo, lo = v - v / 2 := ⟨_, rfl⟩
  have q1 : (v : Int).tdiv 2 = ((v / 2 : Nat) : Int) := by rw [Int.tdiv_eq_ediv_of_nonneg (by omega)]; omega
  have q0 : (v : Int) / 2 = ((v / 2 : Nat) : Int) := by omega
  have q2 : IntKind.i64.wrap ((v / 2 : Nat) : Int) = ((v / 2 : Nat) : Int) := by rw [IntKind.wrap_i64]; omega
  have q3 : (v : Int) - ((v / 2 : Nat) : Int) = (lo : Int) := by omega
  have q4 : IntKind.i64.wrap (lo : Int) = (lo : Int) := by rw [IntKind.wrap_i64]; omega
  rw [← hlo] at HTW hst1 ⊢
  obtain ⟨st, hst⟩ : ∃ st, st = 2 ^ lo := ⟨_, rfl⟩
  obtain ⟨L, hL⟩ : ∃ L, L = 2 ^ v := ⟨_, rfl⟩
  rw [← hst] at HTW hst1 ⊢
  rw [← hL] at hle hmle ⊢
  have HLC : Hid (L = st * m ∧ L ≤ cp) := ⟨by rw [hL, hst, hlo]; exact hm, by have := hl.room; omega⟩
  have hcpL := HLC.out.2
  generalize v / 2 = hh at *
  clear hl ht hm hst hL hlo hv
  go_enter Tryz.func53, Tryz.ntmps53
  go_wp2_with fail
  refine (HTW.out w).mono ?_
  rintro e w0 ⟨rfl, hw⟩
  have hw1 := hw.symm
  subst hw1
  clear hw
  clear q0 q1 q2 q3 q4 HTW
  go_wp2_with fail
  go_loopw [6, 7] (fun ov iv wr => ∃ (k I : Nat), k ≤ m ∧ iv = .int .i64 (I : Int) ∧ Hid (I = st * k) ∧ Hid (wr.ownsRow w.heap.size 23 1 ov k ((List.range k).map (chr ap o cp st)) ∧ Below w.heap.size w wr)) (fun _ iv _ => L - (intOf iv).toNat)
  case atStart => exact ⟨0, 0, Nat.zero_le _, rfl, rfl, World.ownsRow_nil _ _ _ _, Below.refl _ _⟩
  case round =>
    obtain ⟨k, I, hk, rfl, hI, hJ⟩ := hrel
    by_cases hlt : k < m
    · have HI2 : Hid (I + st = st * (k + 1)) := by have := hI.out; unfold Hid; rw [Nat.mul_succ]; omega
      have hIL : I + st ≤ L := by rw [HI2.out, HLC.out.1]; exact Nat.mul_le_mul_left _ (by omega)
      have hlt2 : (I : Int) < (L : Int) := by omega
      have hks : IntKind.i64.wrap ((I : Int) + (st : Int)) = (I : Int) + (st : Int) := by rw [IntKind.wrap_i64]; omega
      have hs1 : (0 : Int) ≤ (I : Int) := by omega
      have hs2 : (I : Int) ≤ (I : Int) + (st : Int) := by omega
      have hs3 : (I : Int) + (st : Int) ≤ (cp : Int) := by omega
      have hto : ((I : Int) + (st : Int)).toNat - I = st := by omega
      have hne : ¬ cp = I := by omega
      obtain ⟨v', w5, hrun, hown, hb5⟩ := own_push (u := .slice (some ⟨ap, o + I, none⟩) st (cp - I)) hJ.out.1 rfl (by omega) hJ.out.2.size
      have HRUN := hid hrun
      have HN : Hid (w5.ownsRow w.heap.size 23 1 v' (k + 1) ((List.range (k + 1)).map (chr ap o cp st)) ∧ Below w.heap.size w w5) := by
        unfold Hid
        rw [List.range_succ, List.map_append]
        refine ⟨?_, hJ.out.2.trans hb5⟩
        have e : chr ap o cp st k = .slice (some ⟨ap, o + I, none⟩) st (cp - I) := by unfold chr; rw [hI.out]
        simp only [List.map_cons, List.map_nil, e]
        exact hown
      clear hrun hown hb5 hJ
      go_wp2_with (at_builtin; refine wpList_append_runP rfl _ _ _ _ rfl _ _ _ rfl rfl HRUN.out ?_)
      go_roundw
      case rel => exact ⟨k + 1, I + st, by omega, by go_num, HI2, HN⟩
      case measure => simp [intOf]; omega
    · obtain rfl : k = m := by omega
      have hge : ¬ (I : Int) < (L : Int) := by have h1 := hI.out; have h2 := HLC.out.1; omega
      have HE := hid hJ.out
      clear hJ
      go_wp2_with fail
      go_ret
      exact ⟨_, rfl, HE.out.1, HE.out.2⟩
theorem rrows12_any (v ap o cp m : Nat) (t : List Int) (w : World) (hv : v ≤ 12) (ht : t.length = 2 ^ v) (hm : 2 ^ v = 2 ^ (v - v / 2) * m) (hl : Lst w.heap.size w (some ⟨ap, o, none⟩) cp t) :
    Calls Tryz.prog 53 #[.slice (some ⟨ap, o, none⟩) (2 ^ v) cp, .int .i64 (v : Int)] w fun e w' => ∃ a c, e = .returned (.slice a m c) ∧ LstR w'.heap.size w' a c (rwl (2 ^ (v - v / 2)) m t) ∧ Below w.heap.size w w' := by
  refine (rrows12_own v ap o cp m t w hv ht hm hl).mono ?_
  rintro e w' ⟨x, rfl, h1, h2⟩
  obtain ⟨a, c, rfl, e2⟩ := rows_of_ownsR (by rw [ht]; exact hm) (by have := hl.room; omega) h1 ((hl.below h2).row.mono h2.size)
  exact ⟨a, c, rfl, e2, h2⟩

set_option maxRecDepth 100000 in
set_option maxHeartbeats 4000000 in
theorem rcolumns12_own (q m N cr : Nat) (s r : Int) (ar : Option Addr) (rows : List (List Int)) (w : World) (h3 : 3 ≤ q) (h4 : q ≤ 2147483647) (hN1 : 1 ≤ N) (hN : N ≤ 65536) (hr0 : 0 ≤ r) (hr1 : r < q) (hs0 : 0 ≤ s) (hs1 : s < q) (hrl : rows.length = m) (hm : m ≤ 4096) (hF : FitsR rows) (hl : LstR w.heap.size w ar cr rows) :
    Calls Tryz.prog 54 #[.agg #[.int .i64 (q : Int), .int .i64 (N : Int), .int .i64 s, .int .i64 r], .slice ar m cr] w fun e w' => ∃ x, e = .returned x ∧ OwnR w.heap.size w' x (cll q s r N rows) ∧ Below w.heap.size w w' := by
  obtain ⟨W0, hW0⟩ : ∃ W0, W0 = w.alloc (.cells #[.int .i64 (q : Int), .int .i64 (N : Int), .int .i64 s, .int .i64 r] 39) := ⟨_, rfl⟩
  have hb0 : Below w.heap.size w W0 := by rw [hW0]; exact (Below.refl _ _).alloc (Nat.le_refl _) _
  have hs00 : W0.heap[w.heap.size]? = some (.cells #[.int .i64 (q : Int), .int .i64 (N : Int), .int .i64 s, .int .i64 r] 39 (0, 0)) := by rw [hW0]; exact heap_alloc_new w _
  obtain ⟨G, hG⟩ : ∃ G, G = w.heap.size := ⟨_, rfl⟩
  have hG0 : G < W0.heap.size := by have := (Array.getElem?_eq_some_iff.1 hs00).1; omega
  rw [← hG] at hs00
  have HC : Hid (∀ W, Below W0.heap.size W0 W → W.cell? ⟨G, 0, none⟩ = some (.int .i64 (q : Int)) ∧ W.cell? ⟨G, 1, none⟩ = some (.int .i64 (N : Int)) ∧ W.cell? ⟨G, 2, none⟩ = some (.int .i64 s) ∧ W.cell? ⟨G, 3, none⟩ = some (.int .i64 r)) := fun W hW => by
    have e1 := (hW.block G hG0).trans hs00
    exact ⟨by simp [World.cell?, e1], by simp [World.cell?, e1], by simp [World.cell?, e1], by simp [World.cell?, e1]⟩
  have HR := hid ((hl.below hb0).mono hb0.size)
  obtain ⟨LG, hLG⟩ : ∃ LG, LG = rows.map (vll q s r N) := ⟨_, rfl⟩
  have HLG : Hid (LG.length = m ∧ (∀ k, k < m → rat LG k = vll q s r N (rat rows k)) ∧ (∀ k, k < m → LG.take (k + 1) = LG.take k ++ [vll q s r N (rat rows k)]) ∧ rows.length = m) := by
    rw [hLG]
    exact ⟨by rw [List.length_map, hrl], fun k hk => rat_map (by omega), fun k hk => take_map_succ (by omega), hrl⟩
  have HVAL : Hid (∀ (W : World) (k c : Nat) (a : Option Addr), k < m → Lst W.heap.size W a c (rat rows k) → Calls Tryz.prog 112 #[.agg #[.int .i64 (q : Int), .int .i64 (N : Int), .int .i64 s, .int .i64 r], .slice a (rat rows k).length c] W fun e w' => ∃ ag cg, e = .returned (.slice ag N cg) ∧ SlR w' (vll q s r N (rat rows k)) (.slice ag N cg) ∧ Below W.heap.size W w') := fun W k c a hk hla => by
    obtain ⟨f1, f2⟩ := hF k (by omega)
    refine (rvalues_any q N c r s a (rat rows k) W h3 h4 (by omega) hN hr0 hr1 hs0 hs1 (by omega) f1 hla.row).mono ?_
    rintro e w' ⟨g, NN, F, rfl, hg, hrow, hle, hFv, hb⟩
    have hvl := vll_len q s r N (rat rows k)
    refine ⟨some ⟨g, 0, none⟩, NN, rfl, ⟨some ⟨g, 0, none⟩, NN, by rw [hvl], ⟨fun i hi => ⟨g, 0, rfl, World.rowIs.lt hrow, ?_⟩, by omega, fun e => by cases e⟩, fun _ => ⟨g, 0, rfl, ?_⟩⟩, hb⟩
    · rw [hvl] at hi
      rw [Nat.zero_add, hrow.cell (by omega), hFv i hi]
      unfold vll
      rw [ls_at _ _ _ hi]
    · obtain ⟨cs, e1, _⟩ := hrow
      exact ⟨cs, 3, (0, 0), e1, by decide, by decide, by decide, by decide, by decide, by decide⟩
  have HCL : Hid (∀ j, j < N → (cll q s r N rows).take (j + 1) = (cll q s r N rows).take j ++ [pgc LG j]) := fun j hj => by
    rw [take_succ_rat (by rw [cll_len]; exact hj), cll_at hj, hLG]
  have HCN : Hid ((cll q s r N rows).length = N) := cll_len _ _ _ _ _
  have HPL : Hid (∀ j, pgc LG j = ls (fun i => zat (rat LG i) j) m) := fun j => by rw [pgc_ls, HLG.out.1]
  have HWID : Hid (∀ i, i < m → (rat LG i).length = N) := fun i hi => by rw [HLG.out.2.1 i hi, vll_len]
  generalize cll q s r N rows = CC at *
  have HW0 := hid hW0
  have HGE := hid hG
  have HBK := hid hb0
  have hmx : Tryz.prog.follows .mixedOrders = true := by kernel_rfl
  clear hW0 hb0 hs00 hG hl hF hrl hLG hr0 hr1 hs0 hs1
  go_enter Tryz.func54, Tryz.ntmps54
  go_wp2_with fail
  rw [← HGE.out, ← HW0.out]
  go_loopw [5, 6, 7] (fun lv iv _ wr => ∃ k : Nat, k ≤ m ∧ iv = .int .i64 (k : Int) ∧ Hid (OwnR W0.heap.size wr lv (LG.take k) ∧ Below W0.heap.size W0 wr)) (fun _ iv _ _ => m - (intOf iv).toNat)
  case atStart => exact ⟨0, Nat.zero_le _, rfl, OwnR.nil _ _, Below.refl _ _⟩
  case round =>
    obtain ⟨k, hk, rfl, hI⟩ := hrel
    have HBI := hid hI.out.2
    have HOI := hid hI.out.1
    clear hI
    by_cases hlt : k < m
    · have hlt2 : (k : Int) < (m : Int) := by omega
      have hk0 : ¬ (k : Int) < 0 := by omega
      have hks : IntKind.i64.wrap ((k : Int) + 1) = (k : Int) + 1 := by rw [IntKind.wrap_i64]; omega
      obtain ⟨b1, o1, ak, ck, rfl, hb1, hc1, hl1⟩ := HR.out.row k (by rw [HLG.out.2.2.2]; exact hlt)
      have HTK := hid (HLG.out.2.2.1 k hlt)
      have HBD : Hid (Below W0.heap.size W0 wr.drew) := HBI.out.drew
      have HVX := hid (HVAL.out wr.drew k ck ak hlt ((hl1.below HBD.out).mono HBD.out.size))
      obtain ⟨nk, hnk⟩ : ∃ nk, nk = (rat rows k).length := ⟨_, rfl⟩
      rw [← hnk] at hc1 HVX
      have HS5 : Hid (∀ W, Below wr.drew.heap.size wr.drew W → (W.cell? ⟨G, 0, none⟩ = some (.int .i64 (q : Int)) ∧ W.cell? ⟨G, 1, none⟩ = some (.int .i64 (N : Int)) ∧ W.cell? ⟨G, 2, none⟩ = some (.int .i64 s) ∧ W.cell? ⟨G, 3, none⟩ = some (.int .i64 r)) ∧ W.cell? ⟨b1, o1 + k, none⟩ = some (.slice ak nk ck)) := fun W hW => by
        have h1 := HBD.out.trans (hW.mono HBD.out.size)
        exact ⟨HC.out W h1, (h1.cell (p := ⟨b1, o1 + k, none⟩) hb1).trans hc1⟩
      obtain ⟨VV, hVV⟩ : ∃ VV, VV = vll q s r N (rat rows k) := ⟨_, rfl⟩
      rw [← hVV] at HVX HTK
      have HOD : Hid (OwnR W0.heap.size wr.drew _ (LG.take k)) := HOI.out.keep (Below.refl _ _).drew
      clear hb1 hc1 hl1 hnk hVV HOI
      go_wp2_with fail
      refine wp_region_held_drew (S := fun W => (W.cell? ⟨G, 0, none⟩ = some (.int .i64 (q : Int)) ∧ W.cell? ⟨G, 1, none⟩ = some (.int .i64 (N : Int)) ∧ W.cell? ⟨G, 2, none⟩ = some (.int .i64 s) ∧ W.cell? ⟨G, 3, none⟩ = some (.int .i64 r)) ∧ W.cell? ⟨b1, o1 + k, none⟩ = some (.slice ak nk ck)) (by kernel_rfl) (HS5.out _ (Below.refl _ _)) (fun hHeld => ?_)
      refine wpAnyH_takeU (i := 0) (v := .agg #[.int .i64 (q : Int), .int .i64 (N : Int), .int .i64 s, .int .i64 r]) rfl (by kernel_rfl) (by kernel_rfl) (by kernel_rfl) (fun _ _ _ h => h) (by rfl) (fun W hC => by (obtain ⟨⟨x1, x2, x3, x4⟩, x5⟩ := hC); go_simp) hHeld ?_
      simp only [Act.put, List.setIfInBounds_toArray, List.set_cons_zero, List.set_cons_succ]
      refine wpAnyH_takeU (i := 1) (v := .slice (some ⟨b1, o1, none⟩) m cr) rfl (by kernel_rfl) (by kernel_rfl) (by kernel_rfl) (fun _ _ _ h => h) (by rfl) (fun W hC => by go_simp) hHeld ?_
      simp only [Act.put, List.setIfInBounds_toArray, List.set_cons_zero, List.set_cons_succ]
      refine wpAnyH_takeU (i := 2) (v := .int .i64 (k : Int)) rfl (by kernel_rfl) (by kernel_rfl) (by kernel_rfl) (fun _ _ _ h => h) (by rfl) (fun W hC => by go_simp) hHeld ?_
      simp only [Act.put, List.setIfInBounds_toArray, List.set_cons_zero, List.set_cons_succ]
      refine wpAnyH_takeU (i := 3) (v := .pointer (some ⟨b1, o1 + k, none⟩)) rfl (by kernel_rfl) (by kernel_rfl) (by kernel_rfl) (fun _ _ _ h => h) (by rfl) (fun W hC => by go_simp) hHeld ?_
      simp only [Act.put, List.setIfInBounds_toArray, List.set_cons_zero, List.set_cons_succ]
      refine wpAnyH_takeU (i := 4) (v := .slice ak nk ck) rfl (by kernel_rfl) (by kernel_rfl) (by kernel_rfl) (fun _ _ _ h => h) (by rfl) (fun W hC => by (obtain ⟨⟨x1, x2, x3, x4⟩, x5⟩ := hC); go_simp) hHeld ?_
      simp only [Act.put, List.setIfInBounds_toArray, List.set_cons_zero, List.set_cons_succ]
      refine wpAnyH_ready (rs := [5]) (by kernel_rfl) (by simp) ?_
      refine AllReadyH.consU rfl (fun K' hK' => ?_) AllReadyH.nil
      go_simp
      refine (HVX.out).mono ?_
      rintro e w5 ⟨ag, cg, rfl, hsl, hb5⟩
      have HSL := hid hsl
      have H5 : Hid (Below wr.drew.heap.size wr.drew w5) := hb5
      clear hsl hb5
      refine hK'.out _ _ (HS5.out _ H5.out) (fun hHeld => ?_)
      clear hK' K'
      refine wpAnyH_takeU (i := 6) (v := .slice ag N cg) rfl (by kernel_rfl) (by kernel_rfl) (by kernel_rfl) (fun _ _ _ h => h) (by rfl) (fun W hC => by go_simp) hHeld ?_
      simp only [Act.put, List.setIfInBounds_toArray, List.set_cons_zero, List.set_cons_succ]
      refine wpAnyH_done (by kernel_rfl) ?_ _
      have HO5 := hid (HOD.out.keep H5.out)
      have HB5 : Hid (Below W0.heap.size W0 w5) := HBD.out.trans (H5.out.mono HBD.out.size)
      have HTL : Hid ((LG.take k).length + 1 ≤ 5864062014805) := by unfold Hid; rw [List.length_take]; omega
      obtain ⟨LK, hLK⟩ : ∃ LK, LK = LG.take k := ⟨_, rfl⟩
      rw [← hLK] at HTK HO5 HTL
      clear HVX HOD hLK HS5 H5
      go_wp2_with (at_builtin; refine wpList_row1 w5 W0.heap.size rfl _ _ rfl _ _ LK VV HO5.out HSL.out rfl rfl HTL.out HB5.out.size ?_)
      intro v6 w6 ho6 hb6 _
      have HR6 : Hid (OwnR W0.heap.size w6 v6 (LG.take (k + 1)) ∧ Below W0.heap.size W0 w6) := by
        unfold Hid
        rw [HTK.out]
        exact ⟨ho6, HB5.out.trans hb6⟩
      clear ho6 hb6 HO5 HSL HB5 HBI HBD
      go_wp2_with fail
      go_roundw
      case rel => exact ⟨k + 1, by omega, by go_num, HR6⟩
      case measure => simp [intOf]; omega
    · obtain rfl : k = m := by omega
      have hlt2 : ¬ (k : Int) < (k : Int) := by omega
      rw [List.take_of_length_le (by rw [HLG.out.1]; exact Nat.le_refl _)] at HOI
      obtain ⟨al, cl, rfl, hll⟩ := OwnR.lst HOI.out
      rw [HLG.out.1]
      obtain ⟨w2, hw2⟩ : ∃ w2, w2 = wr := ⟨_, rfl⟩
      rw [← hw2] at hll HBI ⊢
      have HLL := hid hll
      clear hll HOI HVAL HR hw2
      go_wp2_with fail
      go_loopw [8, 9, 10, 11] (fun ov jv _ _ wr => ∃ j : Nat, j ≤ N ∧ jv = .int .i64 (j : Int) ∧ Hid (OwnR w2.heap.size wr ov (CC.take j) ∧ Below w2.heap.size w2 wr)) (fun _ jv _ _ _ => N - (intOf jv).toNat)
      case atStart => exact ⟨0, Nat.zero_le _, rfl, OwnR.nil _ _, Below.refl _ _⟩
      case round =>
        obtain ⟨j, hj, rfl, hJ⟩ := hrel
        obtain ⟨wj, hwj⟩ : ∃ wj, wj = wr := ⟨_, rfl⟩
        rw [← hwj] at hJ ⊢
        clear hwj
        have HOJ := hid hJ.out.1
        have HBJ := hid hJ.out.2
        clear hJ
        have HBJ0 : Hid (Below W0.heap.size W0 wj) := HBI.out.trans (HBJ.out.mono HBI.out.size)
        obtain ⟨z0, z1, z2, z3⟩ := HC.out wj HBJ0.out
        by_cases hjt : j < N
        · have hjt2 : (j : Int) < (N : Int) := by omega
          have hj0 : ¬ (j : Int) < 0 := by omega
          have hjs : IntKind.i64.wrap ((j : Int) + 1) = (j : Int) + 1 := by rw [IntKind.wrap_i64]; omega
          obtain ⟨Fc, hFc⟩ : ∃ Fc : Nat → Int, Fc = fun (i : Nat) => zat (rat LG i) j := ⟨_, rfl⟩
          have HPJ : Hid (pgc LG j = ls Fc k) := by rw [hFc]; exact HPL.out j
          have HRWJ : Hid (∀ i, i < k → ∃ b2 o2 a3 c3 b3 o3, al = some ⟨b2, o2, none⟩ ∧ a3 = some ⟨b3, o3, none⟩ ∧ ∀ W, Below w2.heap.size w2 W → W.cell? ⟨b2, o2 + i, none⟩ = some (.slice a3 N c3) ∧ W.cell? ⟨b3, o3 + j, none⟩ = some (.int .i64 (Fc i))) := fun i hi => by
            obtain ⟨b2, o2, a3, c3, e1, e2, e3, e4⟩ := HLL.out.row i (by rw [HLG.out.1]; exact hi)
            rw [HWID.out i hi] at e3
            obtain ⟨b3, o3, e5, e6, e7⟩ := e4.row j (by rw [HWID.out i hi]; exact hjt)
            exact ⟨b2, o2, a3, c3, b3, o3, e1, e5, fun W hW => ⟨(hW.cell (p := ⟨b2, o2 + i, none⟩) e2).trans e3, by rw [hFc]; exact (hW.cell (p := ⟨b3, o3 + j, none⟩) e6).trans e7⟩⟩
          clear hFc
          go_wp2_with fail
          clear z0 z1 z2 z3
          go_loopw [10, 11] (fun cv iv wr => ∃ i : Nat, i ≤ k ∧ iv = .int .i64 (i : Int) ∧ Hid (wr.ownsRow wj.heap.size 3 1 cv (ls Fc i).length ((ls Fc i).map (Value.int .i64)) ∧ Below wj.heap.size wj wr)) (fun _ iv _ => k - (intOf iv).toNat)
          case atStart => exact ⟨0, Nat.zero_le _, rfl, World.ownsRow_nil _ _ _ _, Below.refl _ _⟩
          case round =>
            obtain ⟨i, hi, rfl, hT⟩ := hrel
            by_cases hik : i < k
            · have hik2 : (i : Int) < (k : Int) := by omega
              have hi0 : ¬ (i : Int) < 0 := by omega
              have his : IntKind.i64.wrap ((i : Int) + 1) = (i : Int) + 1 := by rw [IntKind.wrap_i64]; omega
              obtain ⟨b2, o2, a3, c3, b3, o3, rfl, rfl, hrow⟩ := HRWJ.out i hik
              obtain ⟨y1, y2⟩ := hrow wr (HBJ.out.trans (hT.out.2.mono HBJ.out.size))
              have HLSJ : Hid (ls Fc (i + 1) = ls Fc i ++ [Fc i] ∧ (ls Fc i).length = i) := ⟨ls_succ _ _, ls_len _ _⟩
              obtain ⟨E, hE⟩ : ∃ E, E = Fc i := ⟨_, rfl⟩
              rw [← hE] at HLSJ y2
              obtain ⟨lj, hlj⟩ : ∃ lj, lj = ls Fc i := ⟨_, rfl⟩
              rw [← hlj] at HLSJ hT
              have HB10 := hid hT.out.2
              have HO9 : Hid ((wr.alloc (.cells #[.int .i64 E] 3)).ownsRow wj.heap.size 3 1 _ lj.length (lj.map (Value.int .i64))) := World.ownsRow.alloc hT.out.1 _
              have HCC : Hid ((wr.alloc (.cells #[.int .i64 E] 3)).cell? ⟨wr.heap.size, 0, none⟩ = some (.int .i64 E)) := by unfold Hid; simp
              have HSS : Hid (wj.heap.size ≤ (wr.alloc (.cells #[.int .i64 E] 3)).heap.size) := by have := HB10.out.size; unfold Hid; simp; omega
              have HBA9 : Hid (Below wj.heap.size wj (wr.alloc (.cells #[.int .i64 E] 3))) := HB10.out.alloc HB10.out.size _
              have HLJ : Hid (lj.length + 1 ≤ 17592186044416) := by have := HLSJ.out.2; unfold Hid; omega
              have HLE : Hid (Lst (wr.alloc (.cells #[.int .i64 E] 3)).heap.size (wr.alloc (.cells #[.int .i64 E] 3)) (some ⟨wr.heap.size, 0, none⟩) 1 [E]) := ⟨fun x hx => ⟨wr.heap.size, 0, rfl, by simp, by
                obtain rfl : x = 0 := by simp at hx; exact hx
                exact HCC.out⟩, by simp, fun e => by cases e⟩
              clear hT hlj hE hrow
              go_wp2_with (at_builtin; refine wpList_appendL (wr.alloc (.cells #[.int .i64 E] 3)) wj.heap.size _ rfl _ _ rfl _ rfl lj [E] HO9.out (some ⟨wr.heap.size, 0, none⟩) 1 rfl HLJ.out HSS.out HLE.out ?_)
              intro v11 w11 ho11 hb11
              have HR11 : Hid (w11.ownsRow wj.heap.size 3 1 v11 (ls Fc (i + 1)).length ((ls Fc (i + 1)).map (Value.int .i64)) ∧ Below wj.heap.size wj w11) := by
                unfold Hid
                rw [HLSJ.out.1]
                refine ⟨?_, HBA9.out.trans hb11⟩
                rw [List.length_append, List.map_append]
                exact ho11
              clear ho11 hb11 HO9 HCC HSS HBA9 HLE y1 y2
              go_wp2_with fail
              go_roundw
              case rel => exact ⟨i + 1, by omega, by go_num, HR11⟩
              case measure => simp [intOf]; omega
            · obtain rfl : i = k := by omega
              have hik2 : ¬ (i : Int) < (i : Int) := by omega
              have HTB := hid hT.out.2
              have hsl := slr_of_owns hT.out.1
              rw [← HPJ.out] at hsl
              obtain ⟨ac, cc, rfl, _⟩ := hsl.lst
              have HSL := hid hsl
              have HOW := hid (HOJ.out.keep hT.out.2)
              have HBW : Hid (Below w2.heap.size w2 wr) := HBJ.out.trans (hT.out.2.mono HBJ.out.size)
              have HTL : Hid ((CC.take j).length + 1 ≤ 5864062014805) := by unfold Hid; rw [List.length_take]; omega
              have HTK := hid (HCL.out j hjt)
              obtain ⟨LK, hLK⟩ : ∃ LK, LK = CC.take j := ⟨_, rfl⟩
              rw [← hLK] at HTK HOW HTL
              obtain ⟨PP, hPP⟩ : ∃ PP, PP = pgc LG j := ⟨_, rfl⟩
              rw [← hPP] at HTK HSL ⊢
              clear hT hsl hLK hPP HPJ HOJ
              go_wp2_with (at_builtin; refine wpList_row1 wr w2.heap.size rfl _ _ rfl _ _ LK PP HOW.out HSL.out rfl rfl HTL.out HBW.out.size ?_)
              intro v6 w6 ho6 hb6 _
              have HR6 : Hid (OwnR w2.heap.size w6 v6 (CC.take (j + 1)) ∧ Below w2.heap.size w2 w6) := by
                unfold Hid
                rw [HTK.out]
                exact ⟨ho6, HBW.out.trans hb6⟩
              clear ho6 hb6 HOW HSL HBW
              go_wp2_with fail
              go_roundw
              case rel => exact ⟨j + 1, by omega, by go_num, HR6⟩
              case measure => simp [intOf]; omega
        · obtain rfl : j = N := by omega
          have hjt2 : ¬ (j : Int) < (j : Int) := by omega
          rw [List.take_of_length_le (by rw [HCN.out]; exact Nat.le_refl _)] at HOJ
          have HE : Hid (OwnR w.heap.size wj _ CC ∧ Below w.heap.size w wj) := ⟨HOJ.out.mono (Nat.le_trans HBK.out.size HBI.out.size), HBK.out.trans (HBJ0.out.mono HBK.out.size)⟩
          clear HOJ
          go_wp2_with fail
          go_ret
          exact ⟨_, rfl, HE.out.1, HE.out.2⟩
theorem rcolumns12_any (q m N cr : Nat) (s r : Int) (ar : Option Addr) (rows : List (List Int)) (w : World) (h3 : 3 ≤ q) (h4 : q ≤ 2147483647) (hN1 : 1 ≤ N) (hN : N ≤ 65536) (hr0 : 0 ≤ r) (hr1 : r < q) (hs0 : 0 ≤ s) (hs1 : s < q) (hrl : rows.length = m) (hm : m ≤ 4096) (hF : FitsR rows) (hl : LstR w.heap.size w ar cr rows) :
    Calls Tryz.prog 54 #[.agg #[.int .i64 (q : Int), .int .i64 (N : Int), .int .i64 s, .int .i64 r], .slice ar m cr] w fun e w' => ∃ a c, e = .returned (.slice a N c) ∧ LstR w'.heap.size w' a c (cll q s r N rows) ∧ Below w.heap.size w w' := by
  refine (rcolumns12_own q m N cr s r ar rows w h3 h4 hN1 hN hr0 hr1 hs0 hs1 hrl hm hF hl).mono ?_
  rintro e w' ⟨x, rfl, h1, h2⟩
  obtain ⟨a, c, rfl, e2⟩ := OwnR.lst h1
  exact ⟨a, c, by rw [cll_len], e2, h2⟩

set_option maxRecDepth 100000 in
set_option maxHeartbeats 2000000 in
theorem rroot12_any (q n v cp N : Nat) (s r : Int) (a : Option Addr) (t : List Int) (w : World) (h5 : 5 ≤ q) (h4 : q ≤ 2147483647) (hpn : Spo.PowIs q n) (hN1 : 1 ≤ N) (hN : N ≤ 65536) (hr0 : 0 ≤ r) (hr1 : r < q) (hs0 : 0 ≤ s) (hs1 : s < q) (hv : v ≤ 12) (ht : t.length = 2 ^ v) (hf : Fits t) (hl : Lst w.heap.size w a cp t) :
    Calls Tryz.prog 19 #[.agg #[.int .i64 (q : Int), .int .i64 (N : Int), .int .i64 s, .int .i64 r], .slice a t.length cp, .int .i64 (v : Int)] w fun e w' => ∃ a' c', e = .returned (.slice a' 4 c') ∧ Lst w'.heap.size w' a' c' (ctz q n s r N v t) ∧ Below w.heap.size w w' := by
  obtain ⟨ap, o, rfl⟩ := some_of_lst hl (by rw [ht]; exact Nat.two_pow_pos v)
  have h3 : 3 ≤ q := by omega
  have hm12 : 2 ^ (v / 2) ≤ 4096 := by have := Nat.pow_le_pow_right (show 0 < 2 by omega) (show v / 2 ≤ 12 by omega); omega
  have hst2 : 2 ^ (v - v / 2) ≤ 4096 := by have := Nat.pow_le_pow_right (show 0 < 2 by omega) (show v - v / 2 ≤ 12 by omega); omega
  obtain ⟨W0, hW0⟩ : ∃ W0, W0 = w.alloc (.cells #[.int .i64 (q : Int), .int .i64 (N : Int), .int .i64 s, .int .i64 r] 39) := ⟨_, rfl⟩
  have hb0 : Below w.heap.size w W0 := by rw [hW0]; exact (Below.refl _ _).alloc (Nat.le_refl _) _
  have hs00 : W0.heap[w.heap.size]? = some (.cells #[.int .i64 (q : Int), .int .i64 (N : Int), .int .i64 s, .int .i64 r] 39 (0, 0)) := by rw [hW0]; exact heap_alloc_new w _
  obtain ⟨G, hG⟩ : ∃ G, G = w.heap.size := ⟨_, rfl⟩
  have hG0 : G < W0.heap.size := by have := (Array.getElem?_eq_some_iff.1 hs00).1; omega
  rw [← hG] at hs00
  have HC : Hid (∀ W, Below W0.heap.size W0 W → W.cell? ⟨G, 0, none⟩ = some (.int .i64 (q : Int)) ∧ W.cell? ⟨G, 1, none⟩ = some (.int .i64 (N : Int)) ∧ W.cell? ⟨G, 2, none⟩ = some (.int .i64 s) ∧ W.cell? ⟨G, 3, none⟩ = some (.int .i64 r)) := fun W hW => by
    have e1 := (hW.block G hG0).trans hs00
    exact ⟨by simp [World.cell?, e1], by simp [World.cell?, e1], by simp [World.cell?, e1], by simp [World.cell?, e1]⟩
  have HBW : Hid (∀ W, Below W0.heap.size W0 W → Below w.heap.size w W) := fun W hW => hb0.trans (hW.mono hb0.size)
  have HRO := hid (rrows12_any v ap o cp (2 ^ (v / 2)) t W0 hv ht (half_two v) ((hl.below hb0).mono hb0.size))
  have htl : t.length = 2 ^ (v - v / 2) * 2 ^ (v / 2) := by rw [ht]; exact half_two v
  have HCO : Hid (∀ (W : World) (c : Nat) (a : Option Addr), LstR W.heap.size W a c (rwl (2 ^ (v - v / 2)) (2 ^ (v / 2)) t) → Calls Tryz.prog 54 #[.agg #[.int .i64 (q : Int), .int .i64 (N : Int), .int .i64 s, .int .i64 r], .slice a (2 ^ (v / 2)) c] W fun e w' => ∃ a c, e = .returned (.slice a N c) ∧ LstR w'.heap.size w' a c (cll q s r N (rwl (2 ^ (v - v / 2)) (2 ^ (v / 2)) t)) ∧ Below W.heap.size W w') := fun W c a hla =>
    rcolumns12_any q (2 ^ (v / 2)) N c s r a _ W h3 h4 hN1 hN hr0 hr1 hs0 hs1 (rwl_len _ _ _) hm12 (rwl_fits htl hf hst2) hla
  have HRT : Hid (∀ (W : World) (c : Nat) (a : Option Addr), LstR W.heap.size W a c (cll q s r N (rwl (2 ^ (v - v / 2)) (2 ^ (v / 2)) t)) → Calls Tryz.prog 55 #[.int .i64 (q : Int), .slice a N c] W fun e w' => ∃ a' c', e = .returned (.slice a' 4 c') ∧ Lst w'.heap.size w' a' c' (ctz q n s r N v t) ∧ Below W.heap.size W w') := fun W c a hla => by
    have h := rroot_any2 q n h5 h4 hpn N c a _ W (by rw [cll_len]; exact hN1) (by rw [cll_len]; exact Nat.le_refl _) (by rw [cll_len]; omega) (cll_fits h3 h4 s r N _ hN (by rw [rwl_len]; exact hm12)) hla
    rw [cll_len] at h
    refine h.mono ?_
    rintro e w' ⟨g, NN, rfl, _, h1, h2⟩
    exact ⟨some ⟨g, 0, none⟩, NN, rfl, h1.1, h2⟩
  obtain ⟨M, hM⟩ : ∃ M, M = 2 ^ (v / 2) := ⟨_, rfl⟩
  rw [← hM] at HRO HCO HRT
  rw [ht]
  obtain ⟨L, hL⟩ : ∃ L, L = 2 ^ v := ⟨_, rfl⟩
  rw [← hL] at HRO ⊢
  have HW0 := hid hW0
  have HGE := hid hG
  clear hW0 hb0 hs00 hG hl hf ht htl hm12 hst2 hM hL hpn hr0 hr1 hs0 hs1
  go_enter Tryz.func19, Tryz.ntmps19
  go_wp2_with fail
  rw [← HGE.out, ← HW0.out]
  refine HRO.out.mono ?_
  rintro e w1 ⟨ar, cr, rfl, hr1, hb1⟩
  have HB1 := hid hb1
  have HCX := hid (HCO.out w1 cr ar hr1)
  obtain ⟨z0, z1, z2, z3⟩ := HC.out w1 hb1
  clear hr1 hb1 HRO HCO
  go_wp2_with fail
  refine HCX.out.mono ?_
  rintro e w2 ⟨ac, cc, rfl, hc2, hb2⟩
  have HB2 : Hid (Below W0.heap.size W0 w2) := HB1.out.trans (hb2.mono HB1.out.size)
  have HRX := hid (HRT.out w2 cc ac hc2)
  clear z0 z1 z2 z3
  obtain ⟨z0, z1, z2, z3⟩ := HC.out w2 HB2.out
  clear hc2 hb2 HCX HRT
  go_wp2_with fail
  refine HRX.out.mono ?_
  rintro e w3 ⟨a', c', rfl, hl3, hb3⟩
  have HE : Hid (Lst w3.heap.size w3 a' c' (ctz q n s r N v t) ∧ Below w.heap.size w w3) := ⟨hl3, HBW.out _ (HB2.out.trans (hb3.mono HB2.out.size))⟩
  clear hl3 hb3 HRX
  go_wp2_with fail
  go_ret
  exact ⟨a', c', rfl, HE.out.1, HE.out.2⟩

end Go.Proofs.YtpgnabmkfkcogaaGreatDoor

namespace Go.Proofs.YtpgnabmkfkcogaaGreatDoor
open Go.RowKit

end Go.Proofs.YtpgnabmkfkcogaaGreatDoor
