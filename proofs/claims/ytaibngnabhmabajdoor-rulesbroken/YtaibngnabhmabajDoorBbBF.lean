/- The reference: of which rows a rule is; Broken. The law RulesBroken answers true: of any rows the first rule that does not hold. -/
import Derived.Test.YtaibngnabhmabajDoorBbAO
import Derived.Test.YtaibngnabhmabajDoorBbBE
import Derived.Test.YtaibngnabhmabajDoorFld
namespace Go.Proofs.YtaibngnabhmabajDoor
open Go.RowKit Go.Maps

set_option maxRecDepth 100000 in
set_option maxHeartbeats 2000000 in
theorem rofk_any (nL k : Nat) (w : World) (hn : nL ≤ 4398046511104) :
    Calls Tryd.prog 15 #[.int .i64 (nL : Int), .int .i64 (k : Int)] w fun e w' => e = .returned (.int .i64 (rkd nL k)) ∧ w' = w := by
  have w12 : IntKind.i64.wrap ((nL : Int) + 12) = (nL : Int) + 12 := by rw [IntKind.wrap_i64]; omega
  have w18 : IntKind.i64.wrap ((nL : Int) + 18) = (nL : Int) + 18 := by rw [IntKind.wrap_i64]; omega
  have w24 : IntKind.i64.wrap ((nL : Int) + 24) = (nL : Int) + 24 := by rw [IntKind.wrap_i64]; omega
  obtain ⟨R, hR⟩ : ∃ R, R = rkd nL k := ⟨_, rfl⟩
  rw [← hR]
  by_cases h1 : k < nL + 12
  · have HE : Hid (R = 0) := by unfold Hid; rw [hR]; simp [rkd, h1]
    have q1 : (k : Int) < (nL : Int) + 12 := by omega
    clear hR h1 hn
    go_enter Tryd.func15, Tryd.ntmps15
    go_wp2_with fail
    go_ret
    exact ⟨by have h := HE.out; subst h; rfl, rfl⟩
  · by_cases h2 : k < nL + 18
    · have HE : Hid (R = 1) := by unfold Hid; rw [hR]; simp [rkd, h1, h2]
      have q1 : ¬ (k : Int) < (nL : Int) + 12 := by omega
      have q2 : (k : Int) < (nL : Int) + 18 := by omega
      clear hR h1 h2 hn
      go_enter Tryd.func15, Tryd.ntmps15
      go_wp2_with fail
      go_ret
      exact ⟨by have h := HE.out; subst h; rfl, rfl⟩
    · by_cases h3 : k < nL + 24
      · have HE : Hid (R = 2) := by unfold Hid; rw [hR]; simp [rkd, h1, h2, h3]
        have q1 : ¬ (k : Int) < (nL : Int) + 12 := by omega
        have q2 : ¬ (k : Int) < (nL : Int) + 18 := by omega
        have q3 : (k : Int) < (nL : Int) + 24 := by omega
        clear hR h1 h2 h3 hn
        go_enter Tryd.func15, Tryd.ntmps15
        go_wp2_with fail
        go_ret
        exact ⟨by have h := HE.out; subst h; rfl, rfl⟩
      · have HE : Hid (R = 3) := by unfold Hid; rw [hR]; simp [rkd, h1, h2, h3]
        have q1 : ¬ (k : Int) < (nL : Int) + 12 := by omega
        have q2 : ¬ (k : Int) < (nL : Int) + 18 := by omega
        have q3 : ¬ (k : Int) < (nL : Int) + 24 := by omega
        clear hR h1 h2 h3 hn
        go_enter Tryd.func15, Tryd.ntmps15
        go_wp2_with fail
        go_ret
        exact ⟨by have h := HE.out; subst h; rfl, rfl⟩

/-- has one of the first rows another width, or is there no instruction? -/
def bdB (nL : Nat) (rows : List (List Int)) (i : Nat) : Bool := decide (nL = 0) || !(wdB (20 + nL) (rows.take i))
theorem bdB_succ {nL i : Nat} {rows : List (List Int)} (h : i < rows.length) : bdB nL rows (i + 1) = (bdB nL rows i || !((rat rows i).length == 20 + nL)) := by
  unfold bdB wdB
  rw [List.take_succ_eq_append_getElem h, List.all_append]
  simp only [rat, List.getD_eq_getElem?_getD, List.getElem?_eq_getElem h, Option.getD_some, List.all_cons, List.all_nil, Bool.and_true, Bool.not_and]
  rw [Bool.or_assoc]
theorem bdB_all {nL : Nat} {rows : List (List Int)} (h0 : rows.length ≠ 0) : (bdB nL rows rows.length = true) ↔ (rows.length = 0 ∨ nL = 0 ∨ wdB (20 + nL) rows = false) := by
  unfold bdB
  rw [List.take_length]
  simp only [Bool.or_eq_true, decide_eq_true_eq, Bool.not_eq_true']
  constructor
  · exact fun h => .inr h
  · exact fun h => h.resolve_left h0

set_option maxRecDepth 100000 in
set_option maxHeartbeats 8000000 in
theorem rbroken_any (p : Nat) (L : List InsZ) (size out : Int) (rows : List (List Int)) (aL : Option Addr) (cL : Nat) (ad : Option Addr) (c : Nat) (w : World) (h3 : 3 ≤ p) (h4 : p ≤ 2147483647) (hIB : InsB L) (hl : L.length ≤ 4398046511104) (hsz : I64 size) (hout : I64 out) (hF : FitsR rows) (hI : LstI w.heap.size w aL cL L) (hL : LstR w.heap.size w ad c rows) (hn : rows.length ≤ 5864062014634) :
    Calls Tryd.prog 7 #[.int .i64 p, .agg #[.int .i64 size, .slice aL L.length cL], .int .i64 out, .slice ad rows.length c] w fun e w' => ∃ z x, e = .returned (.agg #[.int .i64 z, .int .i64 x]) ∧ BrkA p L size out rows z x ∧ Below w.heap.size w w' := by
  have hmx : Tryd.prog.follows .mixedOrders = true := by kernel_rfl
  obtain ⟨R, hR⟩ : ∃ R : Ending → World → Prop, R = fun e w' => ∃ z x, e = .returned (.agg #[.int .i64 z, .int .i64 x]) ∧ BrkA p L size out rows z x ∧ Below w.heap.size w w' := ⟨_, rfl⟩
  rw [← hR]
  have HRR : Hid (∀ (z x : Int) W, BrkA p L size out rows z x → Below w.heap.size w W → R (.returned (.agg #[.int .i64 z, .int .i64 x])) W) := fun z x W h1 h2 => by rw [hR]; exact ⟨z, x, rfl, h1, h2⟩
  obtain ⟨V1, hV1⟩ : ∃ V1, V1 = w.alloc (.cells #[.int .i64 size, .slice aL L.length cL] 24) := ⟨_, rfl⟩
  obtain ⟨W0, hW0⟩ : ∃ W0, W0 = V1.alloc (.cells #[.int .i64 0, .int .i64 0] 31) := ⟨_, rfl⟩
  have b1 : Below w.heap.size w V1 := by rw [hV1]; exact (Below.refl _ _).alloc (Nat.le_refl _) _
  have hz1 : V1.heap.size = w.heap.size + 1 := by rw [hV1]; simp
  have b2 : Below V1.heap.size V1 W0 := by rw [hW0]; exact (Below.refl _ _).alloc (Nat.le_refl _) _
  have hb0 := b1.trans (b2.mono b1.size)
  have hs0 : W0.heap[w.heap.size]? = some (.cells #[.int .i64 size, .slice aL L.length cL] 24 (0, 0)) := (b2.block _ (by omega)).trans (by rw [hV1]; exact heap_alloc_new w _)
  have hg0 : W0.heap[w.heap.size + 1]? = some (.cells #[.int .i64 0, .int .i64 0] 31 (0, 0)) := by rw [hW0, ← hz1]; exact heap_alloc_new V1 _
  obtain ⟨C, hC⟩ : ∃ C, C = w.heap.size := ⟨_, rfl⟩
  obtain ⟨G, hG⟩ : ∃ G, G = w.heap.size + 1 := ⟨_, rfl⟩
  rw [← hC] at hs0
  rw [← hG] at hg0
  have HGW : Hid (w.heap.size ≤ G) := by unfold Hid; omega
  have HB0 := hid hb0
  have HCO : Hid (∀ W, Below W0.heap.size W0 W → W.cell? ⟨C, 0, none⟩ = some (.int .i64 size) ∧ W.cell? ⟨C, 1, none⟩ = some (.slice aL L.length cL) ∧ W.heap[G]? = some (.cells #[.int .i64 0, .int .i64 0] 31 (0, 0))) := fun W h => by
    have h5 := (h.block C (Array.getElem?_eq_some_iff.1 hs0).1).trans hs0
    have h6 := (h.block G (Array.getElem?_eq_some_iff.1 hg0).1).trans hg0
    exact ⟨by simp [World.cell?, h5], by simp [World.cell?, h5], h6⟩
  have HLW := hid (fun W (h : Below w.heap.size w W) => (⟨(hI.below h).mono h.size, (hL.below h).mono h.size⟩ : LstI W.heap.size W aL cL L ∧ LstR W.heap.size W ad c rows))
  have HF := hid hF
  have HOF := hid (fun (k : Nat) W => rofk_any L.length k W hl)
  have HFV : Hid (wdB (20 + L.length) rows = true → 1 ≤ L.length → ∀ i j, i < rows.length → j < rows.length → VF p L size out (rat rows i) (rat rows j)) := fun hw h1 i j hi hj =>
    ⟨h3, h4, wdB_at hw hi, wdB_at hw hj, fun k => Fits.all (hF i hi).1 k, fun k => Fits.all (hF j hj).1 k, hIB, hl, h1, hsz, hout⟩
  obtain ⟨nL, hnL⟩ : ∃ nL, nL = L.length := ⟨_, rfl⟩
  obtain ⟨n, hn'⟩ : ∃ n, n = rows.length := ⟨_, rfl⟩
  have HNL := hid hnL
  have HN := hid hn'
  rw [← hnL] at hl hV1 HCO HOF HFV ⊢
  rw [← hn'] at hn HFV ⊢
  have HBAD : Hid (n = 0 ∨ nL = 0 ∨ wdB (20 + nL) rows = false → BrkA p L size out rows (-2) 0) := fun h => by
    unfold BrkA
    rw [← HN.out, ← HNL.out, if_pos h]
    exact ⟨rfl, rfl⟩
  have HOK : Hid (n ≠ 0 → nL ≠ 0 → wdB (20 + nL) rows = true → ∀ z x, MinB (brkn p L size out rows) (nL + 26) n z x → BrkA p L size out rows z x) := fun g1 g2 g4 z x hm => by
    unfold BrkA
    rw [← HN.out, ← HNL.out, if_neg (by rw [g4]; simp; omega)]
    exact hm
  clear hR b1 b2 hb0 hs0 hg0 hnL hn' hIB hsz hout hF hI
  by_cases hz2 : n = 0
  · have HE := hid (HBAD.out (.inl hz2))
    clear HBAD HOK HFV HOF HN HLW hL HF
    subst hz2
    subst hV1 hW0
    obtain ⟨x0, x1, x2⟩ := HCO.out _ (Below.refl _ _)
    rw [hG] at x2
    go_enter Tryd.func7, Tryd.ntmps7
    go_wp2_with fail
    go_loop [9, 10] (fun bv iv => bv = .bool true ∧ iv = .int .i64 0) (fun _ _ => 0)
    case atStart => exact ⟨rfl, rfl⟩
    case round =>
      obtain ⟨rfl, rfl⟩ := hrel
      go_wp2_with fail
      (try simp only [Exit.inBlock, Exit.then])
      refine bodyPost_ret (results_cell_row rfl _ _ (w.heap.size + 1) 31 #[.int .i64 (-2), .int .i64 0] (0, 0) _ rfl (by have := heap_alloc_new (w.alloc (.cells #[.int .i64 size, .slice aL nL cL] 24)) (.cells #[.int .i64 (-2), .int .i64 0] 31); simpa using this) Tryd.underlying31 rfl (by kernel_rfl)) rfl ?_
      exact HRR.out _ _ _ HE.out (((Below.refl _ _).alloc (Nat.le_refl _) _).alloc (by simp) _)
  have q1 : ((n : Int) == 0) = false := by rw [beq_eq_false_iff_ne]; omega
  obtain ⟨q0, hq0⟩ : ∃ q, q = ((nL : Int) == 0) := ⟨_, rfl⟩
  have hq0' := hq0.symm
  have HQ0 : Hid (q0 = bdB nL rows 0) := by
    unfold Hid
    rw [hq0]
    unfold bdB
    by_cases e : nL = 0
    · subst e; rfl
    · have : ¬ ((nL : Int) = 0) := by omega
      simp [e, wdB]
  have HZ := hid hz2
  obtain ⟨m, hm⟩ : ∃ m, m = 20 + nL := ⟨_, rfl⟩
  have e20 : 20 + (nL : Int) = (m : Int) := by omega
  have w20 : IntKind.i64.wrap (m : Int) = (m : Int) := by rw [IntKind.wrap_i64]; omega
  have HM := hid hm
  clear hq0 hz2 hm
  obtain ⟨x0, x1, x2⟩ := HCO.out W0 (Below.refl _ _)
  have hE0 : (w.alloc (.cells #[.int .i64 size, .slice aL nL cL] 24)).alloc (.cells #[.int .i64 0, .int .i64 0] 31) = W0 := by rw [hW0, hV1]
  clear hV1 hW0
  subst hE0
  rw [hC] at x0 x1
  go_enter Tryd.func7, Tryd.ntmps7
  go_wp2_with fail
  rw [← hG, ← hC]
  clear hC hG x0 x1 x2
  generalize (w.alloc (.cells #[.int .i64 size, .slice aL nL cL] 24)).alloc (.cells #[.int .i64 0, .int .i64 0] 31) = W0 at *
  go_loopw [9, 10] (fun bv iv wr => ∃ i : Nat, i ≤ n ∧ iv = .int .i64 i ∧ bv = .bool (bdB nL rows i) ∧ Hid (Below W0.heap.size W0 wr)) (fun _ iv _ => n - (intOf iv).toNat)
  case atStart => exact ⟨0, Nat.zero_le _, rfl, by rw [HQ0.out], Below.refl _ _⟩
  case round =>
    obtain ⟨i, hi, rfl, rfl, HBw⟩ := hrel
    by_cases hlt : i < n
    · have hlt2 : (i : Int) < (n : Int) := by omega
      have his : IntKind.i64.wrap ((i : Int) + 1) = (i : Int) + 1 := by rw [IntKind.wrap_i64]; omega
      have hbw := HB0.out.trans (HBw.out.mono HB0.out.size)
      obtain ⟨g, o, ak, ck, rfl, hg0, hc, _⟩ := (HLW.out wr hbw).2.row i (by have := HN.out; omega)
      obtain ⟨x0, x1, _⟩ := HCO.out wr HBw.out
      have HBS := hid (bdB_succ (nL := nL) (rows := rows) (i := i) (by have := HN.out; omega))
      rw [← HM.out] at HBS
      obtain ⟨ql, hql⟩ : ∃ q, q = (((rat rows i).length : Int) == (m : Int)) := ⟨_, rfl⟩
      have HQL : Hid (((rat rows i).length == m) = ql) := by
        unfold Hid; rw [hql]
        by_cases e : (rat rows i).length = m
        · rw [e, beq_self_eq_true, beq_self_eq_true]
        · have h9 : ¬ (((rat rows i).length : Int) = (m : Int)) := by omega
          rw [beq_eq_false_iff_ne.2 e, beq_eq_false_iff_ne.2 h9]
      rw [HQL.out] at HBS
      have hql' := hql.symm
      have hqn : (((rat rows i).length : Int) != (m : Int)) = !ql := by rw [bne, hql']
      obtain ⟨b', hb'⟩ : ∃ b', b' = bdB nL rows (i + 1) := ⟨_, rfl⟩
      rw [← hb'] at HBS
      have HB' := hid hb'
      generalize bdB nL rows i = bb at *
      generalize (rat rows i).length = rl at *
      clear hql hb' hbw hg0 HQL
      cases bb with
      | true =>
        have HT : Hid (b' = true) := by unfold Hid; rw [HBS.out]; rfl
        go_wp2_with fail
        go_quiet (fail)
        go_wp2_with fail
        go_roundw
        case rel => exact ⟨i + 1, by omega, by go_num, by rw [← HB'.out, HT.out], below_drewN HBw.out _⟩
        case measure => simp [intOf]; omega
      | false =>
        have HT : Hid (b' = !ql) := by unfold Hid; rw [HBS.out]; rfl
        go_wp2_with fail
        go_quiet (fail)
        go_wp2_with fail
        go_roundw
        case rel => exact ⟨i + 1, by omega, by go_num, by rw [← HB'.out, HT.out], below_drewN HBw.out _⟩
        case measure => simp [intOf]; omega
    · obtain rfl : i = n := by omega
      have hlt2 : ¬ (i : Int) < (i : Int) := by omega
      have hall := bdB_all (nL := nL) (rows := rows) (by rw [← HN.out]; exact HZ.out)
      rw [← HN.out] at hall
      have HALL := hid hall
      obtain ⟨x0, x1, x2⟩ := HCO.out wr HBw.out
      have HX2 := hid x2
      have HBT := hid (HB0.out.trans (HBw.out.mono HB0.out.size))
      clear hall
      cases hbb : bdB nL rows i with
      | true =>
        have HE := hid (HBAD.out (HALL.out.1 hbb))
        have z0 : wr.cell? ⟨G, 0, none⟩ = some (.int .i64 0) := by simp [World.cell?, x2]
        have z1 : wr.cell? ⟨G, 1, none⟩ = some (.int .i64 0) := by simp [World.cell?, x2]
        have yf : ∀ i, wr.frozen? ⟨G, i, none⟩ = false := (row2_of x2).frozen
        clear hbb HALL HBAD HOK
        go_wp2_with fail
        (try simp only [Exit.inBlock, Exit.then])
        refine bodyPost_ret (results_cell_row rfl _ _ G 31 #[.int .i64 (-2), .int .i64 0] (0, 0) _ rfl (put2_heap HX2.out (.int .i64 (-2)) (.int .i64 0)) Tryd.underlying31 rfl (by kernel_rfl)) rfl ?_
        exact HRR.out _ _ _ HE.out (put2_below HBT.out HGW.out _ _)
      | false =>
        have hnot : ¬ (i = 0 ∨ nL = 0 ∨ wdB (20 + nL) rows = false) := fun h => by rw [HALL.out.2 h] at hbb; cases hbb
        have hwd : wdB (20 + nL) rows = true := by
          cases hw : wdB (20 + nL) rows with
          | true => rfl
          | false => exact absurd (.inr (.inr hw)) hnot
        have HOK2 := hid (HOK.out HZ.out (fun h => hnot (.inr (.inl h))) hwd)
        have HFV2 := hid (HFV.out hwd (by have : nL ≠ 0 := fun h => hnot (.inr (.inl h)); omega))
        clear hbb HALL HBAD HOK HFV hnot hwd x2
        have w26 : IntKind.i64.wrap ((nL : Int) + 26) = (nL : Int) + 26 := by rw [IntKind.wrap_i64]; omega
        have HMX := hid hmx
        obtain ⟨wa, hwa⟩ : ∃ wa, wa = wr := ⟨_, rfl⟩
        rw [← hwa] at x0 x1 HX2 HBT HBw ⊢
        clear hwa wr
        go_wp2_with fail
        go_loopw [13, 14, 15, 16, 17] (fun kv _ _ _ _ wq => ∃ k : Nat, k ≤ nL + 26 ∧ kv = .int .i64 k ∧ Hid (∀ j, j < k → ∀ t, t < i → brkn p L size out rows t j = false) ∧ Hid (Below W0.heap.size W0 wq)) (fun kv _ _ _ _ _ => nL + 26 - (intOf kv).toNat)
        case atStart => exact ⟨0, Nat.zero_le _, rfl, fun j hj => by omega, HBw⟩
        case round =>
          obtain ⟨k, hk, rfl, HO, HBo⟩ := hrel
          obtain ⟨wo, hwo⟩ : ∃ wo, wo = wr := ⟨_, rfl⟩
          rw [← hwo] at HBo ⊢
          clear hwo wr
          by_cases hlk : k < nL + 26
          · have hlk2 : (k : Int) < (nL : Int) + 26 := by omega
            have hks : IntKind.i64.wrap ((k : Int) + 1) = (k : Int) + 1 := by rw [IntKind.wrap_i64]; omega
            have hkd := rkd_cases nL k
            have HSP := hid (fun t => hasB_spk nL i t k)
            have HOk := hid (HOF.out k wo)
            generalize rkd nL k = kd at *
            go_wp2_with fail
            refine HOk.out.mono ?_
            rintro e w' ⟨rfl, hw'⟩
            have hw'' := hw'.symm
            subst hw''
            clear hw' HOk
            go_wp2_with fail
            go_loopw [15, 16, 17] (fun tv _ _ wq => ∃ t : Nat, t ≤ i ∧ tv = .int .i64 t ∧ Hid (∀ t', t' < t → brkn p L size out rows t' k = false) ∧ Hid (Below W0.heap.size W0 wq)) (fun tv _ _ _ => i - (intOf tv).toNat)
            case atStart => exact ⟨0, Nat.zero_le _, rfl, fun t ht => by omega, HBo⟩
            case round =>
              obtain ⟨t, ht, rfl, HZt, HBq⟩ := hrel
              obtain ⟨wq, hwq⟩ : ∃ wq, wq = wr := ⟨_, rfl⟩
              rw [← hwq] at HBq ⊢
              clear hwq wr
              by_cases hlt : t < i
              · have hlt3 : (t : Int) < (i : Int) := by omega
                have hts : IntKind.i64.wrap ((t : Int) + 1) = (t : Int) + 1 := by rw [IntKind.wrap_i64]; omega
                obtain ⟨la, hla⟩ : ∃ la, la = i - 1 := ⟨_, rfl⟩
                have ela : (i : Int) - 1 = (la : Int) := by omega
                have wla : IntKind.i64.wrap (la : Int) = (la : Int) := by rw [IntKind.wrap_i64]; omega
                have hsp := HSP.out t
                rw [← hla] at hsp
                have HBC := hid (brkn_circle p L size out rows (i := t) k (by have := HN.out; omega))
                rw [← HN.out, ← HNL.out, ← hsp] at HBC
                have HZ2 : Hid (hasB kd t la = false → ∀ t', t' < t + 1 → brkn p L size out rows t' k = false) := fun h t' ht' => by
                  by_cases e : t' = t
                  · subst e; rw [HBC.out, h, Bool.and_false]
                  · exact HZt.out t' (by omega)
                obtain ⟨t2, ht2⟩ : ∃ t2, t2 = (t + 1) % i := ⟨_, rfl⟩
                have ht2l : t2 < i := by rw [ht2]; exact Nat.mod_lt _ (by omega)
                have lt2 : (t2 : Int) < (i : Int) := by omega
                have emd : ((t : Int) + 1).tmod (i : Int) = (t2 : Int) := by rw [Int.tmod_eq_emod_of_nonneg (by omega), ht2]; exact (Int.natCast_emod _ _).symm
                have hbq := HB0.out.trans (HBq.out.mono HB0.out.size)
                obtain ⟨g, o, ak, ck, had, hg0, hc1, hr1⟩ := (HLW.out wq hbq).2.row t (by have := HN.out; omega)
                obtain ⟨g', o', an, cn, had2, _, hc2, hr2⟩ := (HLW.out wq hbq).2.row t2 (by have := HN.out; omega)
                rw [had] at had2
                injection had2 with had2
                injection had2 with hg' ho'
                subst hg' ho'
                obtain ⟨y0, y1, y2⟩ := HCO.out wq HBq.out
                obtain ⟨W4, hW4⟩ : ∃ W4, W4 = (wq.alloc (.cells #[.int .i64 p, .int .i64 size, .slice aL nL cL, .int .i64 out, .slice ak (rat rows t).length ck, .slice an (rat rows t2).length cn] 49)).drew := ⟨_, rfl⟩
                have hb4 : Below wq.heap.size wq W4 := by rw [hW4]; exact ((Below.refl _ _).alloc (Nat.le_refl _) _).drew
                have hb04 := HBq.out.trans (hb4.mono HBq.out.size)
                have hbw4 := HB0.out.trans (hb04.mono HB0.out.size)
                have hWW : WW p wq.heap.size L size out (rat rows t) (rat rows t2) aL cL ak ck an cn W4 :=
                  ⟨by rw [hW4, ← HNL.out]; exact heap_alloc_new wq _, (HLW.out W4 hbw4).1, RowB.mono hb4.size (RowB.below hb4 hr1.row), RowB.mono hb4.size (RowB.below hb4 hr2.row)⟩
                have HRU := hid (wrule_any p wq.heap.size L size out (rat rows t) (rat rows t2) aL cL ak ck an cn W4 (HFV2.out t t2 hlt ht2l) hWW k (by have := HNL.out; omega))
                have HB4 := hid hb04
                rw [← ht2] at HBC
                obtain ⟨zk, hzk⟩ : ∃ z, z = zat (rls p L size out (rat rows t) (rat rows t2)) k := ⟨_, rfl⟩
                rw [← hzk] at HRU HBC
                generalize (rat rows t).length = l1 at *
                generalize (rat rows t2).length = l2 at *
                clear hzk hWW hb04 hbw4 hb4 hr1 hr2 hbq ht2 ht2l hla hsp hg0
                have hz0 : ¬ (i : Int) = 0 := by have := HZ.out; omega
                have hz0' : ¬ i = 0 := HZ.out
                have hcase : (hasB kd t la = true ∧ (kd = 0 ∨ (kd = 1 ∧ t ≠ la) ∨ (kd = 2 ∧ t = 0) ∨ (kd = 3 ∧ ¬ t < la))) ∨ (hasB kd t la = false ∧ ((kd = 1 ∧ t = la) ∨ (kd = 2 ∧ 0 < t) ∨ (kd = 3 ∧ t < la))) := by
                  rcases hkd with rfl | rfl | rfl | rfl
                  · exact .inl ⟨rfl, .inl rfl⟩
                  · by_cases e : t = la
                    · exact .inr ⟨by simp [hasB, e], .inl ⟨rfl, e⟩⟩
                    · exact .inl ⟨by simp [hasB, e], .inr (.inl ⟨rfl, e⟩)⟩
                  · by_cases e : t = 0
                    · exact .inl ⟨by simp [hasB, e], .inr (.inr (.inl ⟨rfl, e⟩))⟩
                    · exact .inr ⟨by simp [hasB, e], .inr (.inl ⟨rfl, by omega⟩)⟩
                  · by_cases e : t < la
                    · exact .inr ⟨by simp [hasB]; omega, .inr (.inr ⟨rfl, e⟩)⟩
                    · exact .inl ⟨by simp [hasB]; omega, .inr (.inr (.inr ⟨rfl, e⟩))⟩
                rcases hcase with ⟨hh, hc⟩ | ⟨hh, hc⟩
                · rw [hh, Bool.and_true] at HBC
                  clear hh HZ2
                  subst had
                  rcases hc with rfl | ⟨rfl, hx⟩ | ⟨rfl, hx⟩ | ⟨rfl, hx⟩
                  case' inl => go_wp2_with fail
                  case' inr.inl =>
                    have qx : ((t : Int) == (la : Int)) = false := by rw [beq_eq_false_iff_ne]; omega
                    clear hx
                    go_wp2_with fail
                  case' inr.inr.inl =>
                    have qx : ¬ (0 : Int) < (t : Int) := by omega
                    have qx' : ¬ 0 < t := by omega
                    clear hx
                    go_wp2_with fail
                  case' inr.inr.inr =>
                    have qx : ¬ (t : Int) < (la : Int) := by omega
                    clear hx
                    go_wp2_with fail
                  all_goals
                    go_still_tail 15, hmx
                    go_wp2_with fail
                    rw [← hW4]
                    clear hW4 y0 y1 y2 hc1 hc2
                    refine HRU.out.mono ?_
                    rintro e w5 ⟨rfl, hb5⟩
                    have HB5 := hid (HB4.out.trans (hb5.mono HB4.out.size))
                    clear hb5 HRU HB4
                    by_cases hzz : zk = 0
                    · have qz : (zk == 0) = true := by simp [hzz]
                      have qz' : (zk != 0) = false := by simp [hzz]
                      have HZ3 : Hid (∀ t', t' < t + 1 → brkn p L size out rows t' k = false) := fun t' ht' => by
                        by_cases e : t' = t
                        · subst e; rw [HBC.out, hzz]; rfl
                        · exact HZt.out t' (by omega)
                      clear hzz
                      go_wp2_with fail
                      go_roundw
                      case rel => exact ⟨t + 1, by omega, by go_num, HZ3, HB5⟩
                      case measure => simp [intOf]; omega
                    · have qz : (zk == 0) = false := by simp [hzz]
                      have qz' : (zk != 0) = true := by simp [hzz]
                      have HE := hid (HOK2.out (k : Int) (t : Int) (.inr ⟨k, t, hlk, hlt, rfl, rfl, by rw [HBC.out]; simp [hzz], fun t' ht' j hj => HO.out j hj t' ht', HZt.out⟩))
                      obtain ⟨_, _, y2⟩ := HCO.out w5 HB5.out
                      have HY2 := hid y2
                      have HBT2 := hid (HB0.out.trans (HB5.out.mono HB0.out.size))
                      have z0 : w5.cell? ⟨G, 0, none⟩ = some (.int .i64 0) := by simp [World.cell?, y2]
                      have z1 : w5.cell? ⟨G, 1, none⟩ = some (.int .i64 0) := by simp [World.cell?, y2]
                      have yf : ∀ i, w5.frozen? ⟨G, i, none⟩ = false := (row2_of y2).frozen
                      clear y2 hzz
                      go_wp2_with fail
                      (try simp only [Exit.inBlock, Exit.then])
                      refine bodyPost_ret (results_cell_row rfl _ _ G 31 #[.int .i64 (k : Int), .int .i64 (t : Int)] (0, 0) _ rfl (put2_heap HY2.out (.int .i64 (k : Int)) (.int .i64 (t : Int))) Tryd.underlying31 rfl (by kernel_rfl)) rfl ?_
                      exact HRR.out _ _ _ HE.out (put2_below HBT2.out HGW.out _ _)
                · have HZ3 := hid (HZ2.out hh)
                  clear HZ2 hh HRU HBC HB4 hW4
                  rcases hc with ⟨rfl, hx⟩ | ⟨rfl, hx⟩ | ⟨rfl, hx⟩
                  · have qx : ((t : Int) == (la : Int)) = true := by simp [hx]
                    clear hx
                    go_wp2_with fail
                    go_roundw
                    case rel => exact ⟨t + 1, by omega, by go_num, HZ3, HBq⟩
                    case measure => simp [intOf]; omega
                  · have qx : (0 : Int) < (t : Int) := by omega
                    have qx' : 0 < t := by omega
                    clear hx
                    go_wp2_with fail
                    go_roundw
                    case rel => exact ⟨t + 1, by omega, by go_num, HZ3, HBq⟩
                    case measure => simp [intOf]; omega
                  · have qx : (t : Int) < (la : Int) := by omega
                    clear hx
                    go_wp2_with fail
                    go_roundw
                    case rel => exact ⟨t + 1, by omega, by go_num, HZ3, HBq⟩
                    case measure => simp [intOf]; omega
              · obtain rfl : t = i := by omega
                have hlt3 : ¬ (t : Int) < (t : Int) := by omega
                have HO2 : Hid (∀ j, j < k + 1 → ∀ t', t' < t → brkn p L size out rows t' j = false) := fun j hj t' ht' => by
                  by_cases e : j = k
                  · subst e; exact HZt.out t' ht'
                  · exact HO.out j (by omega) t' ht'
                go_wp2_with fail
                go_roundw
                case rel => exact ⟨k + 1, by omega, by go_num, HO2, HBq⟩
                case measure => simp [intOf]; omega
          · obtain rfl : k = nL + 26 := by omega
            have hlk2 : ¬ ((nL + 26 : Nat) : Int) < (nL : Int) + 26 := by omega
            have HE := hid (HOK2.out (-1) 0 (.inl ⟨rfl, rfl, fun t ht j hj => HO.out j hj t ht⟩))
            obtain ⟨_, _, y2⟩ := HCO.out wo HBo.out
            have HY2 := hid y2
            have HBT2 := hid (HB0.out.trans (HBo.out.mono HB0.out.size))
            have z0 : wo.cell? ⟨G, 0, none⟩ = some (.int .i64 0) := by simp [World.cell?, y2]
            have z1 : wo.cell? ⟨G, 1, none⟩ = some (.int .i64 0) := by simp [World.cell?, y2]
            have yf : ∀ i, wo.frozen? ⟨G, i, none⟩ = false := (row2_of y2).frozen
            clear y2
            go_wp2_with fail
            (try simp only [Exit.inBlock, Exit.then])
            refine bodyPost_ret (results_cell_row rfl _ _ G 31 #[.int .i64 (-1), .int .i64 0] (0, 0) _ rfl (put2_heap HY2.out (.int .i64 (-1)) (.int .i64 0)) Tryd.underlying31 rfl (by kernel_rfl)) rfl ?_
            exact HRR.out _ _ _ HE.out (put2_below HBT2.out HGW.out _ _)

end Go.Proofs.YtaibngnabhmabajDoor

namespace Go.Proofs.YtaibngnabhmabajDoor
open Go.RowKit Go.Maps

set_option maxRecDepth 100000 in
set_option maxHeartbeats 4000000 in
theorem rbroken_walk (p out size : Int) (aL : Option Addr) (cL : Nat) (L : List InsZ) (a1 : Option Addr) (c1 : Nat) (rows : List (List Int)) (w : World) (hLd : Laid w) (hp1 : -9223372036854775808 ≤ p) (hp2 : p ≤ 9223372036854775807) (hout : I64 out) (hsz : I64 size) (hl : L.length ≤ 4398046511104) (hI : LstI w.heap.size w aL cL L) (hIB : InsB L)
    (hL : LstR w.heap.size w a1 c1 rows) (hF : FitsR rows) (hn : rows.length ≤ 5864062014634) :
    Calls Tryd.prog 3 #[.int .i64 p, .agg #[.int .i64 size, .slice aL L.length cL], .int .i64 out, .slice a1 rows.length c1] w fun e w' => e = .returned (.bool true) ∧ Below w.heap.size w w' := by
  obtain ⟨W0, hW0⟩ : ∃ W0, W0 = w.alloc (.cells #[.int .i64 size, .slice aL L.length cL] 24) := ⟨_, rfl⟩
  have hb0 : Below w.heap.size w W0 := by rw [hW0]; exact (Below.refl _ _).alloc (Nat.le_refl _) _
  have hs0 : W0.heap[w.heap.size]? = some (.cells #[.int .i64 size, .slice aL L.length cL] 24 (0, 0)) := by rw [hW0]; exact heap_alloc_new w _
  have hCl : w.heap.size < W0.heap.size := (Array.getElem?_eq_some_iff.1 hs0).1
  have HB0 := hid hb0
  have HLD := hid hLd
  obtain ⟨nL, hnl⟩ : ∃ nL, nL = L.length := ⟨_, rfl⟩
  have HNL := hid hnl
  have HCO : Hid (∀ W, Below W0.heap.size W0 W → W.cell? ⟨w.heap.size, 0, none⟩ = some (.int .i64 size) ∧ W.cell? ⟨w.heap.size, 1, none⟩ = some (.slice aL L.length cL)) := fun W h => by
    have := (h.block w.heap.size hCl).trans hs0
    exact ⟨by simp [World.cell?, this], by simp [World.cell?, this]⟩
  rw [← hnl] at hW0 HCO ⊢
  by_cases hok : okPrime p
  · obtain ⟨q, rfl⟩ := Int.eq_ofNat_of_zero_le (show 0 ≤ p by have := hok.1; omega)
    obtain ⟨hq3, hq4, hqp⟩ := hok
    rw [Int.toNat_natCast] at hqp
    have h3 : 3 ≤ q := by omega
    have h4 : q ≤ 2147483647 := by omega
    have HFY := hid (field_yes q W0 h3 h4 hqp)
    have HLW : Hid (∀ W, Below W0.heap.size W0 W → LstI W.heap.size W aL cL L ∧ LstR W.heap.size W a1 c1 rows) := fun W h => by
      have hb := hb0.trans (h.mono hb0.size)
      exact ⟨(hI.below hb).mono hb.size, (hL.below hb).mono hb.size⟩
    have HF := hid hF
    obtain ⟨n, hn'⟩ : ∃ n, n = rows.length := ⟨_, rfl⟩
    have HN := hid hn'
    have HBR := hid (fun (ad : Option Addr) (cd fb : Nat) (W : World) (h : Below W0.heap.size W0 W) (hp : W.cell? ⟨fb, 0, none⟩ = some (.int .i64 q)) (hd : LstR W.heap.size W ad cd rows) => pbroken_any q fb L size out rows aL cL ad cd W h3 h4 hIB hl hsz hout hF hp (HLW.out W h).1 hd hn)
    have HRB := hid (fun (W : World) (h : Below W0.heap.size W0 W) => rbroken_any q L size out rows aL cL a1 c1 W h3 h4 hIB hl hsz hout hF (HLW.out W h).1 (HLW.out W h).2 hn)
    rw [← hn', ← hnl] at HBR HRB
    rw [← hn'] at hn ⊢
    clear hb0 hs0 hnl hI hqp hLd hq3 hq4 hp1 hp2 hIB hl hsz hout hL hF hn'
    go_enter Tryd.func3, Tryd.ntmps3
    go_wp2_with fail
    rw [← hW0]
    clear hW0
    refine HFY.out.mono ?_
    rintro e w1 ⟨rfl, hc1, hb1, hlt1⟩
    have HB1 := hid hb1
    obtain ⟨fb, hfb⟩ : ∃ fb, fb = W0.heap.size := ⟨_, rfl⟩
    rw [← hfb] at hc1 hlt1 ⊢
    have HC1 := hid hc1
    have HCP := hid (copied_any c1 a1 rows w1 (by rw [← HN.out]; omega) (fun k hk => by have := (HF.out k hk).2; omega) (HLW.out w1 hb1).2)
    rw [← HN.out] at HCP
    clear hc1 hb1 HFY hfb
    go_wp2_with fail
    refine HCP.out.mono ?_
    rintro e w2 ⟨v0, rfl, hO, hb2⟩
    obtain ⟨ao, co, rfl, hlo⟩ := hO.lst
    rw [← HN.out]
    have HB2 := hid (HB1.out.trans (hb2.mono HB1.out.size))
    have HLO := hid hlo
    obtain ⟨k0, k1⟩ := HCO.out w2 HB2.out
    have HP2 := hid (HBR.out ao co fb w2 HB2.out ((hb2.cell (p := ⟨fb, 0, none⟩) hlt1).trans HC1.out) hlo)
    clear hO hlo hb2 HCP HB1 HBR
    go_wp2_with fail
    refine HP2.out.mono ?_
    rintro e w3 ⟨z, x, rfl, hbk, hb3⟩
    have HBK := hid hbk
    obtain ⟨W3, hW3⟩ : ∃ W3, W3 = w3.alloc (.cells #[.int .i64 z, .int .i64 x] 31) := ⟨_, rfl⟩
    have hb33 : Below w3.heap.size w3 W3 := by rw [hW3]; exact (Below.refl _ _).alloc (Nat.le_refl _) _
    have hb23 := hb3.trans (hb33.mono hb3.size)
    have HB23 := hid hb23
    have HB3 := hid (HB2.out.trans (hb23.mono HB2.out.size))
    have HA3 : Hid (W3.heap[w3.heap.size]? = some (.cells #[.int .i64 z, .int .i64 x] 31 (0, 0))) := by unfold Hid; rw [hW3]; exact heap_alloc_new w3 _
    have hkk := HCO.out W3 HB3.out
    have HRB3 := hid (HRB.out W3 HB3.out)
    obtain ⟨A, hA⟩ : ∃ A, A = w3.heap.size := ⟨_, rfl⟩
    rw [← hA] at HA3
    clear hbk hb3 hb33 hb23 HP2 k0 k1 HRB
    obtain ⟨k0, k1⟩ := hkk
    rw [hW3] at k0 k1
    go_wp2_with fail
    rw [← hW3, ← hA]
    clear hW3 hA k0 k1
    refine HRB3.out.mono ?_
    rintro e w4 ⟨z', x', rfl, hbk', hb4⟩
    obtain ⟨rfl, rfl⟩ := HBK.out.one hbk'
    obtain ⟨W4, hW4⟩ : ∃ W4, W4 = w4.alloc (.cells #[.int .i64 z, .int .i64 x] 31) := ⟨_, rfl⟩
    have hb44 : Below w4.heap.size w4 W4 := by rw [hW4]; exact (Below.refl _ _).alloc (Nat.le_refl _) _
    have hb34 := hb4.trans (hb44.mono hb4.size)
    have HB4 := hid (HB3.out.trans (hb34.mono HB3.out.size))
    have hb24 := HB23.out.trans (hb34.mono HB23.out.size)
    have HA4 : Hid (W4.heap[A]? = some (.cells #[.int .i64 z, .int .i64 x] 31 (0, 0))) := (hb34.block A (Array.getElem?_eq_some_iff.1 HA3.out).1).trans HA3.out
    have HA5 : Hid (W4.heap[w4.heap.size]? = some (.cells #[.int .i64 z, .int .i64 x] 31 (0, 0))) := by unfold Hid; rw [hW4]; exact heap_alloc_new w4 _
    obtain ⟨B, hB⟩ : ∃ B, B = w4.heap.size := ⟨_, rfl⟩
    rw [← hB] at HA5
    have HSR := hid (srows_any co c1 ao a1 rows rows W4.heap.size W4.heap.size W4 (by rw [← HN.out]; omega) (by rw [← HN.out]; omega) (fun k hk => by have := (HF.out k hk).2; omega) (fun k hk => by have := (HF.out k hk).2; omega) ((HLO.out.below hb24).mono hb24.size) (HLW.out W4 HB4.out).2)
    rw [decide_eq_true rfl, ← HN.out] at HSR
    clear hbk' hb4 hb44 hb34 hb24 HRB3 HBK HA3
    go_wp2_with fail
    rw [← hW4, ← hB]
    clear hW4 hB
    refine HSR.out.mono ?_
    rintro e w5 ⟨rfl, k5, rfl⟩
    have HB5 := hid (HB0.out.trans ((below_drewN HB4.out k5).mono HB0.out.size))
    have y0 : (W4.drewN k5).cell? ⟨A, 0, none⟩ = some (.int .i64 z) := by show W4.cell? ⟨A, 0, none⟩ = _; simp [World.cell?, HA4.out]
    have y1 : (W4.drewN k5).cell? ⟨A, 1, none⟩ = some (.int .i64 x) := by show W4.cell? ⟨A, 1, none⟩ = _; simp [World.cell?, HA4.out]
    have y2 : (W4.drewN k5).cell? ⟨B, 0, none⟩ = some (.int .i64 z) := by show W4.cell? ⟨B, 0, none⟩ = _; simp [World.cell?, HA5.out]
    have y3 : (W4.drewN k5).cell? ⟨B, 1, none⟩ = some (.int .i64 x) := by show W4.cell? ⟨B, 1, none⟩ = _; simp [World.cell?, HA5.out]
    have qz : (z == z) = true := by simp
    have qx : (x == x) = true := by simp
    generalize W4.drewN k5 = w5 at *
    go_wp2_with fail
    go_ret
    exact ⟨by first | rfl | simp, HB5.out⟩
  · have HFN := hid (field_no p W0 (HLD.out.below hb0) hok hp1 hp2)
    clear hok hb0 hs0 hnl hI hLd hL hF
    go_enter Tryd.func3, Tryd.ntmps3
    go_wp2_with fail
    rw [← hW0]
    clear hW0
    refine HFN.out.mono ?_
    rintro e w1 ⟨rfl, hb1⟩
    have HBF := hid (HB0.out.trans (hb1.mono HB0.out.size))
    clear hb1 HFN
    go_wp2_with fail
    go_ret
    exact ⟨rfl, HBF.out⟩

end Go.Proofs.YtaibngnabhmabajDoor
