/- Package whole: the reference's reader: lists. -/
import Derived.Test.YtcajofdmadpmoaaDoorWbV
namespace Go.Proofs.YtcajofdmadpmoaaDoor
open Go.RowKit

theorem rfnum_any (Z0 : Nat) (full : List Nat) (R : Nat) (s : Option (List Nat)) (w : World) (h : RF Z0 full w R s) : Calls Tryd.prog 26 #[.pointer (some ⟨R, 0, none⟩)] w (RfE (fun _ v (x : Int) => v = .int .i64 x) Z0 full R w (s.bind rdI)) := by
  cases s with
  | none => exact rfnum_bad Z0 full R w h
  | some bs => exact rfnum_good Z0 full R bs w h
theorem bindC {s : Option (List Nat)} {o : Option (Int × List Nat)} (h : o = s.bind rdI) : s.bind rdC = o.bind (fun x => if 0 ≤ x.1 ∧ x.1 ≤ (x.2.length : Int) then some (x.1.toNat, x.2) else none) := by
  subst h
  cases s with
  | none => rfl
  | some bs =>
    show rdC bs = (rdI bs).bind _
    unfold rdC
    cases rdI bs with
    | none => rfl
    | some x => rfl
theorem bindL {α : Type} (p : Rdr α) (s : Option (List Nat)) : s.bind (rdL p) = (s.bind rdC).bind (fun x => rdN p x.2 x.1) := by
  cases s with
  | none => rfl
  | some bs =>
    show rdL p bs = (rdC bs).bind _
    unfold rdL
    cases rdC bs with
    | none => rfl
    | some x => rfl

set_option maxRecDepth 100000 in
set_option maxHeartbeats 4000000 in
theorem rfcount_any (Z0 : Nat) (full : List Nat) (R : Nat) (s : Option (List Nat)) (w : World) (h : RF Z0 full w R s) : Calls Tryd.prog 28 #[.pointer (some ⟨R, 0, none⟩)] w (RfE (fun _ v (x : Nat) => v = .int .i64 (x : Int) ∧ x ≤ 1048576) Z0 full R w (s.bind rdC)) := by
  have HN := hid (rfnum_any Z0 full R s w h)
  obtain ⟨o, ho⟩ : ∃ o, o = s.bind rdI := ⟨_, rfl⟩
  rw [bindC ho]
  rw [← ho] at HN
  clear h ho
  go_enter Tryd.func28, Tryd.ntmps28
  go_wp2_with fail
  refine HN.out.mono ?_
  rintro e w1 ⟨hg1, v, x, rfl, rfl, h1, hx⟩
  have HG1 := hid hg1
  have H1 := hid h1
  have HX := hid hx
  obtain ⟨a, c, k, h0, hz, h2, h3, h4, h5, h6⟩ := h1
  obtain ⟨N, hN⟩ : ∃ N, N = full.length := ⟨_, rfl⟩
  rw [← hN] at h2 h0 h5
  have y0 : w1.cell? ⟨R, 0, none⟩ = some (.slice a N c) := by simp [World.cell?, h2]
  have y1 : w1.cell? ⟨R, 1, none⟩ = some (.int .i64 (k : Int)) := by simp [World.cell?, h2]
  have f2 : w1.frozen? ⟨R, 2, none⟩ = false := by simp [World.frozen?, h2]
  obtain ⟨BB, hBB⟩ : ∃ b, b = (o.map (·.2)).isNone := ⟨_, rfl⟩
  have y2 : w1.cell? ⟨R, 2, none⟩ = some (.bool BB) := by simp [World.cell?, h2, hBB]
  have hsub : IntKind.i64.wrap ((N : Int) - (k : Int)) = (N : Int) - (k : Int) := by rw [IntKind.wrap_i64]; omega
  have HB : Hid (∀ n, RF Z0 full ((w1.drewN n).setCell ⟨R, 2, none⟩ (.bool true)) R none ∧ w.grownBy ((w1.drewN n).setCell ⟨R, 2, none⟩ (.bool true)) (some R) ∧ ((w1.drewN n).setCell ⟨R, 2, none⟩ (.bool true)).cell? ⟨R, 2, none⟩ = some (.bool true)) := fun n =>
    ⟨(H1.out.below (below_drewN (Below.refl _ _) n)).bad, gb_trans (gb_trans hg1 (gb_below (below_drewN (Below.refl _ _) n))) (gb_rf _ _ _ _), by
      have : ((w1.drewN n).setCell ⟨R, 2, none⟩ (.bool true)).heap[R]? = _ := set_atW (W := w1.drewN n) h2 2 (.bool true)
      simp [World.cell?, this]⟩
  have HW : Hid (∀ n, RF Z0 full (w1.drewN n) R (o.map (·.2)) ∧ w.grownBy (w1.drewN n) (some R)) := fun n => ⟨H1.out.below (below_drewN (Below.refl _ _) n), gb_trans hg1 (gb_below (below_drewN (Below.refl _ _) n))⟩
  by_cases hneg : x < 0
  · have hd : decide (x < 0) = true := decide_eq_true hneg
    have HO : Hid (o.bind (fun x => if 0 ≤ x.1 ∧ x.1 ≤ (x.2.length : Int) then some (x.1.toNat, x.2) else none) = none) := by
      unfold Hid
      cases o with
      | none => rfl
      | some z =>
        have := hx z.1 z.2 rfl
        show (if 0 ≤ z.1 ∧ _ then _ else _) = none
        rw [if_neg]
        rw [← this]
        omega
    clear hg1 h0 hz h2 h3 h4 h5 h6 hx hN HN hBB
    go_wp2_with fail
    go_quiet (fail)
    go_wp2_with fail
    go_ret
    rw [HO.out]
    exact ⟨(HB.out _).2.1, _, 0, rfl, ⟨rfl, by omega⟩, (HB.out _).1, fun y r e => by cases e⟩
  · have hd : decide (x < 0) = false := decide_eq_false hneg
    by_cases hgt : (N : Int) - (k : Int) < x
    · have hd2 : decide ((N : Int) - (k : Int) < x) = true := decide_eq_true hgt
      have HO : Hid (o.bind (fun x => if 0 ≤ x.1 ∧ x.1 ≤ (x.2.length : Int) then some (x.1.toNat, x.2) else none) = none) := by
        unfold Hid
        cases o with
        | none => rfl
        | some z =>
          have := hx z.1 z.2 rfl
          show (if 0 ≤ z.1 ∧ _ then _ else _) = none
          have hl := h6 z.2 rfl
          have hl2 : z.2.length = N - k := by rw [hl, List.length_drop, hN]
          rw [if_neg]
          rw [← this]
          omega
      clear hg1 h0 hz h2 h3 h4 h5 h6 hx hN HN hBB
      go_wp2_with fail
      go_quiet (fail)
      go_wp2_with fail
      go_ret
      rw [HO.out]
      exact ⟨(HB.out _).2.1, _, 0, rfl, ⟨rfl, by omega⟩, (HB.out _).1, fun y r e => by cases e⟩
    · have hd2 : decide ((N : Int) - (k : Int) < x) = false := decide_eq_false hgt
      cases o with
      | none =>
        have y2' : w1.cell? ⟨R, 2, none⟩ = some (.bool true) := by rw [hBB] at y2; exact y2
        clear y2 hBB hg1 h0 hz h2 h3 h4 h5 h6 hx hN HN
        go_wp2_with fail
        go_quiet (fail)
        go_wp2_with fail
        go_ret
        exact ⟨(HW.out _).2, _, 0, rfl, ⟨rfl, by omega⟩, (HW.out _).1, fun y r e => by cases e⟩
      | some z =>
        have y2' : w1.cell? ⟨R, 2, none⟩ = some (.bool false) := by rw [hBB] at y2; exact y2
        have hxz := hx z.1 z.2 rfl
        have hl := h6 z.2 rfl
        have hl2 : z.2.length = N - k := by rw [hl, List.length_drop, hN]
        obtain ⟨m, rfl⟩ := Int.eq_ofNat_of_zero_le (show 0 ≤ x by omega)
        have HO : Hid ((some z).bind (fun x => if 0 ≤ x.1 ∧ x.1 ≤ (x.2.length : Int) then some (x.1.toNat, x.2) else none) = some (m, z.2) ∧ m ≤ 1048576) := by
          refine ⟨?_, by omega⟩
          show (if 0 ≤ z.1 ∧ _ then _ else _) = _
          rw [if_pos (by rw [← hxz]; omega), ← hxz]
          rfl
        clear y2 hBB hg1 h0 hz h2 h3 h4 h5 h6 hx hN HN hl hl2 hxz
        go_wp2_with fail
        go_quiet (fail)
        go_wp2_with fail
        go_ret
        rw [HO.out.1]
        exact ⟨(HW.out _).2, _, m, rfl, ⟨rfl, HO.out.2⟩, (HW.out _).1, fun y r e => by injection e with e; injection e with e _⟩

theorem RF.own {Z0 : Nat} {full : List Nat} {w w' : World} {R : Nat} {s : Option (List Nat)} {ob : Option Nat} (h : RF Z0 full w R s) (e : w.grownBy w' ob) (ho : ∀ k, ob = some k → R < k) : RF Z0 full w' R s :=
  h.blocks (fun b hb => e.block b (by have := h.lt; omega) (fun e1 => by have := ho b e1.symm; omega))
theorem RF.bel {Z0 : Nat} {full : List Nat} {w w' : World} {R N0 : Nat} {s : Option (List Nat)} (h : RF Z0 full w R s) (e : Below N0 w w') (hR : R < N0) : RF Z0 full w' R s := h.blocks (fun b hb => e.block b (by omega))
theorem own_notF {w : World} {base R n : Nat} {Z0 : Nat} {full : List Nat} {s : Option (List Nat)} {v : Value} {xs : List Value} (h : w.ownsRow base 3 1 v n xs) (hR : RF Z0 full w R s) : v.ownBlock = none ∨ v.ownBlock ≠ some R := by
  rcases h.2 with ⟨rfl, _⟩ | ⟨g, cap, cur, rfl, _, hg, _⟩
  · exact .inl rfl
  · refine .inr (fun e => ?_)
    injection e with e
    subst e
    obtain ⟨_, _, _, _, _, h1, _⟩ := hR
    rw [h1] at hg
    injection hg with hg
    injection hg with _ h3 _
    exact absurd h3 (by decide)
theorem rf_ko {Z0 : Nat} {full : List Nat} {w w' : World} {R : Nat} {s : Option (List Nat)} (h : RF Z0 full w R s) (e : w.grownBy w' (some R)) : KO w w' := by
  obtain ⟨_, _, _, _, _, h1, _⟩ := h
  exact KO.oth h1 (by decide) (by decide) (by decide) e.size (fun b hb hr => gb_blk e hb hr)

set_option maxRecDepth 100000 in
set_option maxHeartbeats 4000000 in
theorem rfnums_any (Z0 : Nat) (full : List Nat) (R : Nat) (s : Option (List Nat)) (w : World) (h : RF Z0 full w R s) : Calls Tryd.prog 25 #[.pointer (some ⟨R, 0, none⟩)] w (RfE (fun w v l => SlI w l v) Z0 full R w (s.bind (rdL rdI))) := by
  obtain ⟨i0, hi0, hz0, hz1, hz2⟩ := info_parts Tryd.infoInt
  have hRl := h.lt
  have HN := hid (rfcount_any Z0 full R s w h)
  obtain ⟨T, hT⟩ : ∃ T, T = s.bind (rdL rdI) := ⟨_, rfl⟩
  obtain ⟨o, ho⟩ : ∃ o, o = s.bind rdC := ⟨_, rfl⟩
  rw [← hT]
  rw [bindL, ← ho] at hT
  rw [← ho] at HN
  clear h ho
  go_enter Tryd.func25, Tryd.ntmps25
  go_wp2_with fail
  refine HN.out.mono ?_
  rintro e w1 ⟨hg1, v, n, rfl, ⟨rfl, hn⟩, h1, hx⟩
  have HT : Hid (∀ i l s', i ≤ n → (∀ r', s' = some r' → ∃ r0, o = some (n, r0) ∧ rdN rdI r0 i = some (l, r')) → (s' = none → T = none) → (i = n → T = s'.map (fun r' => (l, r')))) := by
    intro i l s' hi h2 h3 e
    cases s' with
    | none => exact h3 rfl
    | some r' =>
      obtain ⟨r0, e1, e2⟩ := h2 r' rfl
      rw [hT, e1]
      show rdN rdI r0 n = _
      rw [← e, e2]
      rfl
  have HT0 : Hid ((∀ r', o.map (·.2) = some r' → ∃ r0, o = some (n, r0) ∧ rdN rdI r0 0 = some ([], r')) ∧ (o.map (·.2) = none → T = none)) := by
    cases o with
    | none => exact ⟨fun r' e => (by cases e), fun _ => hT⟩
    | some z =>
      obtain ⟨m, r0⟩ := z
      have := hx m r0 rfl
      subst this
      refine ⟨fun r' e => ?_, fun e => by cases e⟩
      injection e with e
      exact ⟨r0, rfl, by rw [← e]; rfl⟩
  have HTS : Hid (∀ i r0, i ≤ n → o = some (n, r0) → rdN rdI r0 i = none → T = none) := by
    intro i r0 hi e1 e2
    rw [hT, e1]
    exact rdN_none e2 n hi
  have HG1 := hid hg1
  have H1 := hid h1
  clear hT hg1 h1 hx HN
  go_wp2_with fail
  go_loopw [3, 5, 6] (fun lv0 iv _ wr => ∃ (i : Nat) (lv : Value), i ≤ n ∧ iv = .int .i64 (i : Int) ∧ lv = lv0 ∧ Hid (∃ (l : List Int) (s' : Option (List Nat)), l.length = i ∧ wr.ownsRow w.heap.size 3 1 lv l.length (l.map (Value.int .i64)) ∧ RF Z0 full wr R s' ∧ w.grownBy wr (some R) ∧ (∀ r', s' = some r' → ∃ r0, o = some (n, r0) ∧ rdN rdI r0 i = some (l, r')) ∧ (s' = none → T = none))) (fun _ iv _ _ => n - (intOf iv).toNat)
  case atStart => exact ⟨0, _, Nat.zero_le _, rfl, rfl, [], _, rfl, World.ownsRow_nil _ _ _ _, H1.out, HG1.out, HT0.out.1, HT0.out.2⟩
  case round =>
    obtain ⟨i, lv, hi, rfl, rfl, hI⟩ := hrel
    obtain ⟨l, s', e2, e3, e4, e5, e6, e7⟩ := hI.out
    have HE : Hid ((i = n ∨ s' = none) → RfE (fun w v l => SlI w l v) Z0 full R w T (.returned lv) wr) := by
      intro hc
      have hTT : T = s'.map (fun r' => (l, r')) := by
        rcases hc with e | e
        · exact HT.out i l s' hi e6 e7 e
        · rw [e]; exact e7 e
      refine ⟨e5, lv, l, rfl, sli_of_owns e3, ?_, ?_⟩
      · rw [hTT]
        cases s' <;> exact e4
      · intro y r e
        rw [hTT] at e
        cases s' with
        | none => cases e
        | some r' => injection e with e; injection e with e1 e2
    by_cases hlt : i < n
    · have hlt2 : (i : Int) < (n : Int) := by omega
      have hd : decide ((i : Int) < (n : Int)) = true := decide_eq_true hlt2
      have hks : IntKind.i64.wrap ((i : Int) + 1) = (i : Int) + 1 := by rw [IntKind.wrap_i64]; omega
      obtain ⟨a, c, k, _, _, h10, _⟩ := id e4
      have y2 : wr.cell? ⟨R, 2, none⟩ = some (.bool s'.isNone) := by simp [World.cell?, h10]
      cases hs' : s' with
      | none =>
        subst hs'
        have y2' : wr.cell? ⟨R, 2, none⟩ = some (.bool true) := y2
        clear y2 hI e2 e3 e4 e5 e6 e7 h10
        go_wp2_with fail
        go_ret
        exact HE.out (by simp)
      | some r' =>
        subst hs'
        have y2' : wr.cell? ⟨R, 2, none⟩ = some (.bool false) := y2
        have HO := hid (rfnum_any Z0 full R (some r') wr e4)
        have HS : Hid ((∀ x r'', rdI r' = some (x, r'') → ∃ r0, o = some (n, r0) ∧ rdN rdI r0 (i + 1) = some (l ++ [x], r'')) ∧ (rdI r' = none → T = none) ∧ l.length = i) := by
          obtain ⟨r0, k1, k2⟩ := e6 r' rfl
          refine ⟨fun x r'' e => ⟨r0, k1, ?_⟩, fun e => ?_, e2⟩
          · simp only [rdN, k2, e]
          · refine HTS.out (i + 1) r0 (by omega) k1 ?_
            simp only [rdN, k2, e]
        have HW := hid e5
        have HOW := hid e3
        have HR4 := hid e4
        clear y2 hI e3 e4 e5 e6 e7 h10
        go_wp2_with fail
        refine HO.out.mono ?_
        rintro e w3 ⟨hg3, v3, x, rfl, hv3, h3, hx3⟩
        have H3 := hid h3
        have HG3 := hid (gb_trans HW.out hg3)
        have HREL : Hid ((∀ r'', ((some r').bind rdI).map (·.2) = some r'' → ∃ r0, o = some (n, r0) ∧ rdN rdI r0 (i + 1) = some (l ++ [x], r'')) ∧ (((some r').bind rdI).map (·.2) = none → T = none)) := by
          have h9 : (some r').bind rdI = rdI r' := rfl
          rw [h9] at hx3 ⊢
          cases hrd : rdI r' with
          | none => exact ⟨fun _ e => (by cases e), fun _ => HS.out.2.1 hrd⟩
          | some z =>
            obtain ⟨y, r2⟩ := z
            have := hx3 y r2 hrd
            subst this
            refine ⟨fun r'' e => ?_, fun e => by cases e⟩
            injection e with e
            exact HS.out.1 x r'' (by rw [hrd, ← e])
        have HLE := hid HS.out.2.2
        obtain ⟨s2, hs2⟩ : ∃ s2, s2 = ((some r').bind rdI).map (·.2) := ⟨_, rfl⟩
        rw [← hs2] at H3 HREL
        clear h3 hs2 hx3 HO
        have hv3' : v3 = .int .i64 x := hv3
        subst hv3'
        have hown := HOW.out.kept hg3 (own_notF HOW.out HR4.out)
        have HOX := hid (hown.alloc (.cells #[.int .i64 x] 3))
        clear hg3 hown hv3
        go_wp2_with (at_builtin; refine wpList_append_own _ rfl _ _ 22 rfl w.heap.size 3 i0 (.int .i64 0) 1 8 Tryd.underlying22 hi0 hz0 hz1 hz2 rfl (by decide) _ _ _ rfl HOX.out ⟨w3.heap.size, 0, none⟩ 1 1 [.int .i64 x] rfl rfl ?c1 ?c2 ?c3 ?c4 ?c5 ?_)
        case c1 =>
          intro j u hj
          match j, hj with
          | 0, hj => simp at hj; subst hj; simp [Addr.add]
        case c2 => intro u hu; simp at hu; subst hu; rfl
        case c3 => rw [HLE.out]; unfold maxLen; omega
        case c4 => rw [HLE.out]; omega
        case c5 => have := HG3.out.size; simp; omega
        intro v' w5 hown2 hgrow _
        have hown3 := owns_succ (by rw [HLE.out]; exact hown2)
        have holt : ∀ k', lv.ownBlock = some k' → w.heap.size ≤ k' := fun k' hk' => (HOX.out.lt k' hk').1
        have HE2 : Hid (∃ (l : List Int) (s' : Option (List Nat)), l.length = i + 1 ∧ w5.ownsRow w.heap.size 3 1 v' l.length (l.map (Value.int .i64)) ∧ RF Z0 full w5 R s' ∧ w.grownBy w5 (some R) ∧ (∀ r', s' = some r' → ∃ r0, o = some (n, r0) ∧ rdN rdI r0 (i + 1) = some (l, r')) ∧ (s' = none → T = none)) :=
          ⟨l ++ [x], s2, by rw [List.length_append, HLE.out]; rfl, hown3, (H3.out.below ((Below.refl _ _).alloc (Nat.le_refl _) _)).own hgrow (fun k' hk' => by have := holt k' hk'; omega), gb_own (gb_alloc HG3.out _) hgrow holt, HREL.out.1, HREL.out.2⟩
        clear hown2 hown3 hgrow holt HOX HR4 HOW HW HS HREL H3 HG3
        go_wp2_with fail
        go_roundw
        case rel => exact ⟨i + 1, _, by omega, by go_num, rfl, HE2⟩
        case measure => simp [intOf]; omega
    · obtain rfl : i = n := by omega
      have hd : decide ((i : Int) < (i : Int)) = false := decide_eq_false (by omega)
      clear hI e2 e3 e4 e5 e6 e7
      go_wp2_with fail
      go_ret
      exact HE.out (by simp)

set_option maxRecDepth 100000 in
set_option maxHeartbeats 4000000 in
theorem rfrows_any (Z0 : Nat) (full : List Nat) (R : Nat) (s : Option (List Nat)) (w : World) (h : RF Z0 full w R s) : Calls Tryd.prog 27 #[.pointer (some ⟨R, 0, none⟩)] w (RfE (fun w v l => OwnI 0 w v l) Z0 full R w (s.bind (rdL (rdL rdI)))) := by
  have hRl := h.lt
  have HN := hid (rfcount_any Z0 full R s w h)
  obtain ⟨T, hT⟩ : ∃ T, T = s.bind (rdL (rdL rdI)) := ⟨_, rfl⟩
  obtain ⟨o, ho⟩ : ∃ o, o = s.bind rdC := ⟨_, rfl⟩
  rw [← hT]
  rw [bindL, ← ho] at hT
  rw [← ho] at HN
  clear h ho
  go_enter Tryd.func27, Tryd.ntmps27
  go_wp2_with fail
  refine HN.out.mono ?_
  rintro e w1 ⟨hg1, v, n, rfl, ⟨rfl, hn⟩, h1, hx⟩
  have HT : Hid (∀ i l s', i ≤ n → (∀ r', s' = some r' → ∃ r0, o = some (n, r0) ∧ rdN (rdL rdI) r0 i = some (l, r')) → (s' = none → T = none) → (i = n → T = s'.map (fun r' => (l, r')))) := by
    intro i l s' hi h2 h3 e
    cases s' with
    | none => exact h3 rfl
    | some r' =>
      obtain ⟨r0, e1, e2⟩ := h2 r' rfl
      rw [hT, e1]
      show rdN (rdL rdI) r0 n = _
      rw [← e, e2]
      rfl
  have HT0 : Hid ((∀ r', o.map (·.2) = some r' → ∃ r0, o = some (n, r0) ∧ rdN (rdL rdI) r0 0 = some ([], r')) ∧ (o.map (·.2) = none → T = none)) := by
    cases o with
    | none => exact ⟨fun r' e => (by cases e), fun _ => hT⟩
    | some z =>
      obtain ⟨m, r0⟩ := z
      have := hx m r0 rfl
      subst this
      refine ⟨fun r' e => ?_, fun e => by cases e⟩
      injection e with e
      exact ⟨r0, rfl, by rw [← e]; rfl⟩
  have HTS : Hid (∀ i r0, i ≤ n → o = some (n, r0) → rdN (rdL rdI) r0 i = none → T = none) := by
    intro i r0 hi e1 e2
    rw [hT, e1]
    exact rdN_none e2 n hi
  have HG1 := hid hg1
  have H1 := hid h1
  clear hT hg1 h1 hx HN
  go_wp2_with fail
  go_loopw [3, 5, 6] (fun lv0 iv _ wr => ∃ (i : Nat) (lv : Value), i ≤ n ∧ iv = .int .i64 (i : Int) ∧ lv = lv0 ∧ Hid (∃ (l : List (List Int)) (s' : Option (List Nat)), l.length = i ∧ OwnI w.heap.size wr lv l ∧ RF Z0 full wr R s' ∧ w.grownBy wr (some R) ∧ (∀ r', s' = some r' → ∃ r0, o = some (n, r0) ∧ rdN (rdL rdI) r0 i = some (l, r')) ∧ (s' = none → T = none))) (fun _ iv _ _ => n - (intOf iv).toNat)
  case atStart => exact ⟨0, _, Nat.zero_le _, rfl, rfl, [], _, rfl, OwnI.nil _ _, H1.out, HG1.out, HT0.out.1, HT0.out.2⟩
  case round =>
    obtain ⟨i, lv, hi, rfl, rfl, hI⟩ := hrel
    obtain ⟨l, s', e2, e3, e4, e5, e6, e7⟩ := hI.out
    have HE : Hid ((i = n ∨ s' = none) → RfE (fun w v l => OwnI 0 w v l) Z0 full R w T (.returned lv) wr) := by
      intro hc
      have hTT : T = s'.map (fun r' => (l, r')) := by
        rcases hc with e | e
        · exact HT.out i l s' hi e6 e7 e
        · rw [e]; exact e7 e
      refine ⟨e5, lv, l, rfl, e3.mono (Nat.zero_le _), ?_, ?_⟩
      · rw [hTT]
        cases s' <;> exact e4
      · intro y r e
        rw [hTT] at e
        cases s' with
        | none => cases e
        | some r' => injection e with e; injection e with e1 e2
    by_cases hlt : i < n
    · have hlt2 : (i : Int) < (n : Int) := by omega
      have hd : decide ((i : Int) < (n : Int)) = true := decide_eq_true hlt2
      have hks : IntKind.i64.wrap ((i : Int) + 1) = (i : Int) + 1 := by rw [IntKind.wrap_i64]; omega
      obtain ⟨a, c, k, _, _, h10, _⟩ := id e4
      have y2 : wr.cell? ⟨R, 2, none⟩ = some (.bool s'.isNone) := by simp [World.cell?, h10]
      cases hs' : s' with
      | none =>
        subst hs'
        have y2' : wr.cell? ⟨R, 2, none⟩ = some (.bool true) := y2
        clear y2 hI e2 e3 e4 e5 e6 e7 h10
        go_wp2_with fail
        go_ret
        exact HE.out (by simp)
      | some r' =>
        subst hs'
        have y2' : wr.cell? ⟨R, 2, none⟩ = some (.bool false) := y2
        have HO := hid (rfnums_any Z0 full R (some r') wr e4)
        have HS : Hid ((∀ x r'', (rdL rdI) r' = some (x, r'') → ∃ r0, o = some (n, r0) ∧ rdN (rdL rdI) r0 (i + 1) = some (l ++ [x], r'')) ∧ ((rdL rdI) r' = none → T = none) ∧ l.length = i) := by
          obtain ⟨r0, k1, k2⟩ := e6 r' rfl
          refine ⟨fun x r'' e => ⟨r0, k1, ?_⟩, fun e => ?_, e2⟩
          · simp only [rdN, k2, e]
          · refine HTS.out (i + 1) r0 (by omega) k1 ?_
            simp only [rdN, k2, e]
        have HW := hid e5
        have HOW := hid e3
        have HR4 := hid e4
        clear y2 hI e3 e4 e5 e6 e7 h10
        go_wp2_with fail
        refine HO.out.mono ?_
        rintro e w3 ⟨hg3, v3, x, rfl, hv3, h3, hx3⟩
        have H3 := hid h3
        have HG3 := hid (gb_trans HW.out hg3)
        have HREL : Hid ((∀ r'', ((some r').bind (rdL rdI)).map (·.2) = some r'' → ∃ r0, o = some (n, r0) ∧ rdN (rdL rdI) r0 (i + 1) = some (l ++ [x], r'')) ∧ (((some r').bind (rdL rdI)).map (·.2) = none → T = none)) := by
          have h9 : (some r').bind (rdL rdI) = (rdL rdI) r' := rfl
          rw [h9] at hx3 ⊢
          cases hrd : (rdL rdI) r' with
          | none => exact ⟨fun _ e => (by cases e), fun _ => HS.out.2.1 hrd⟩
          | some z =>
            obtain ⟨y, r2⟩ := z
            have := hx3 y r2 hrd
            subst this
            refine ⟨fun r'' e => ?_, fun e => by cases e⟩
            injection e with e
            exact HS.out.1 x r'' (by rw [hrd, ← e])
        have HLE := hid HS.out.2.2
        obtain ⟨s2, hs2⟩ : ∃ s2, s2 = ((some r').bind (rdL rdI)).map (·.2) := ⟨_, rfl⟩
        rw [← hs2] at H3 HREL
        clear h3 hs2 hx3 HO
        have HOX := hid (HOW.out.ki (rf_ko HR4.out hg3).1)
        have hs3' : SlI w3 x v3 := hv3
        have HSX := hid hs3'
        obtain ⟨a3, c3, rfl, _⟩ := hs3'
        clear hg3 hv3
        obtain ⟨nx, hnx⟩ : ∃ nx, nx = x.length := ⟨_, rfl⟩
        rw [← hnx] at HSX ⊢
        clear hnx
        go_wp2_with (at_builtin; refine wpList_rowI w3 w.heap.size rfl _ _ rfl _ _ l x HOX.out HSX.out rfl rfl (by rw [HLE.out]; omega) HG3.out.size ?_)
        intro v' w5 ho5 hb5
        have HE2 : Hid (∃ (l : List (List Int)) (s' : Option (List Nat)), l.length = i + 1 ∧ OwnI w.heap.size w5 v' l ∧ RF Z0 full w5 R s' ∧ w.grownBy w5 (some R) ∧ (∀ r', s' = some r' → ∃ r0, o = some (n, r0) ∧ rdN (rdL rdI) r0 (i + 1) = some (l, r')) ∧ (s' = none → T = none)) :=
          ⟨l ++ [x], s2, by rw [List.length_append, HLE.out]; rfl, ho5, H3.out.bel hb5 (by have := HG3.out.size; omega), gb_bel HG3.out hb5, HREL.out.1, HREL.out.2⟩
        clear ho5 hb5 HOX HR4 HOW HW HS HSX HREL H3 HG3
        go_wp2_with fail
        go_roundw
        case rel => exact ⟨i + 1, _, by omega, by go_num, rfl, HE2⟩
        case measure => simp [intOf]; omega
    · obtain rfl : i = n := by omega
      have hd : decide ((i : Int) < (i : Int)) = false := decide_eq_false (by omega)
      clear hI e2 e3 e4 e5 e6 e7
      go_wp2_with fail
      go_ret
      exact HE.out (by simp)

end Go.Proofs.YtcajofdmadpmoaaDoor
