/- Package source: blanks, the next token. -/
import Derived.Test.YthpkcageimhgaaaDoorSrE
import Derived.Deep.QuietTactic
import Derived.BigQuiet
import Derived.StillTailTactics
namespace Go.Proofs.YthpkcageimhgaaaDoor
open Go.RowKit

theorem drop_cons (L : List UInt8) (k : Nat) (h : k < L.length) : L.drop k = L.getD k 0 :: L.drop (k + 1) := by
  rw [List.drop_eq_getElem_cons h, List.getD_eq_getElem?_getD, List.getElem?_eq_getElem h]
  rfl
theorem blank_sp {c : UInt8} (r : List UInt8) (h : c = 32 ∨ c = 9 ∨ c = 10) : blank (c :: r) = blank r := by
  rw [blank, if_pos (by rcases h with rfl | rfl | rfl <;> rfl)]
theorem blank_rem (r : List UInt8) : blank (35 :: r) = blank (r.dropWhile (· != 10)) := by
  rw [blank, if_neg (by decide), if_pos (by decide)]
theorem blank_no {c : UInt8} (r : List UInt8) (h1 : ¬ c = 32) (h2 : ¬ c = 9) (h3 : ¬ c = 10) (h4 : ¬ c = 35) : blank (c :: r) = c :: r := by
  rw [blank, if_neg (by simp [h1, h2, h3]), if_neg (by simpa using h4)]
theorem drop_tw (p : UInt8 → Bool) : ∀ r : List UInt8, r.drop (r.takeWhile p).length = r.dropWhile p
  | [] => rfl
  | c :: r => by
    cases h : p c with
    | true => simp [h, drop_tw p r]
    | false => simp [h]
theorem u8_eq (c k : UInt8) : ((c.toNat : Int) == (k.toNat : Int)) = decide (c = k) := by
  rw [Bool.eq_iff_iff]
  simp
  exact ⟨fun h => UInt8.toNat_inj.1 (by omega), fun h => by rw [h]⟩
/-- where the first token from a place on begins -/
def pst (L : List UInt8) (a : Nat) : Nat := L.length - (blank (L.drop a)).length

set_option maxHeartbeats 1000000 in
theorem pastBlanks_any (s : ByteArray) (a : Nat) (w : World) (hs : s.size ≤ 1000000) (ha : a ≤ s.size) : Calls Tryd.prog 33 #[.string s, .int .i64 (a : Int)] w fun e w' => e = .returned (.int .i64 (pst (by' s) a : Nat)) ∧ w' = w := by
  have HLL := hid lineLen_any
  obtain ⟨L, hL⟩ : ∃ L, by' s = L := ⟨_, rfl⟩
  have hl := by_len s
  rw [hL] at hl ⊢
  have HL := hid hL
  have HLN := hid hl
  clear hL hl
  go_enter Tryd.func33, Tryd.ntmps33
  go_wp2_with fail
  go_loop [1] (fun i => ∃ k : Nat, k ≤ s.size ∧ i = .int .i64 k ∧ Hid (blank (L.drop k) = blank (L.drop a))) (fun i => s.size - (intOf i).toNat)
  case atStart => exact ⟨a, ha, rfl, rfl⟩
  case round =>
    obtain ⟨k, hk, rfl, HA⟩ := hrel
    by_cases hlt : k < s.size
    · have hlt2 : (k : Int) < (s.size : Int) := by omega
      have hwr : IntKind.i64.wrap ((k : Int) + 1) = (k : Int) + 1 := by rw [IntKind.wrap_i64]; omega
      obtain ⟨c, hc⟩ : ∃ c, s[k] = c := ⟨_, rfl⟩
      have HG : Hid (L.drop k = c :: L.drop (k + 1)) := by
        unfold Hid
        rw [drop_cons L k (by rw [HLN.out]; exact hlt), ← HL.out, by_getD s k hlt, hc]
      have q1 : ((c.toNat : Int) == 32) = decide (c = 32) := u8_eq c 32
      have q2 : ((c.toNat : Int) == 9) = decide (c = 9) := u8_eq c 9
      have q3 : ((c.toNat : Int) == 10) = decide (c = 10) := u8_eq c 10
      have q4 : ((c.toNat : Int) == 35) = decide (c = 35) := u8_eq c 35
      by_cases hb : c = 32 ∨ c = 9 ∨ c = 10
      · have HN : Hid (blank (L.drop (k + 1)) = blank (L.drop a)) := by
          unfold Hid
          rw [← HA.out, HG.out, blank_sp _ hb]
        by_cases h1 : c = 32
        · rw [decide_eq_true h1] at q1
          clear hb h1 q2 q3 q4
          go_wp2_with fail
          go_round
          case rel => exact ⟨k + 1, by omega, by go_num, HN⟩
          case measure => simp [intOf]; omega
        · by_cases h2 : c = 9
          · rw [decide_eq_false h1] at q1
            rw [decide_eq_true h2] at q2
            clear hb h1 h2 q3 q4
            go_wp2_with fail
            go_round
            case rel => exact ⟨k + 1, by omega, by go_num, HN⟩
            case measure => simp [intOf]; omega
          · have h3 : c = 10 := by rcases hb with h | h | h; exact absurd h h1; exact absurd h h2; exact h
            rw [decide_eq_false h1] at q1
            rw [decide_eq_false h2] at q2
            rw [decide_eq_true h3] at q3
            clear hb h1 h2 h3 q4
            go_wp2_with fail
            go_round
            case rel => exact ⟨k + 1, by omega, by go_num, HN⟩
            case measure => simp [intOf]; omega
      · have h1 : ¬ c = 32 := fun e => hb (.inl e)
        have h2 : ¬ c = 9 := fun e => hb (.inr (.inl e))
        have h3 : ¬ c = 10 := fun e => hb (.inr (.inr e))
        rw [decide_eq_false h1] at q1
        rw [decide_eq_false h2] at q2
        rw [decide_eq_false h3] at q3
        by_cases h4 : c = 35
        · rw [decide_eq_true h4] at q4
          have HE : Hid (by' (s.extract k s.size) = L.drop k) := by
            unfold Hid
            rw [by_ext, HL.out, List.take_of_length_le (by rw [List.length_drop, HLN.out]; omega)]
          obtain ⟨m, hm⟩ : ∃ m, m = ((by' (s.extract k s.size)).takeWhile (· != 10)).length := ⟨_, rfl⟩
          have HM := hid hm
          have HCL := hid (HLL.out (s.extract k s.size) w)
          rw [← hm] at HCL
          have hmf : 0 < m ∧ k + m ≤ s.size ∧ blank (L.drop (k + m)) = blank (L.drop a) := by
            rw [hm, HE.out]
            have e1 : (List.takeWhile (· != 10) (L.drop k)).length = 1 + ((L.drop (k + 1)).takeWhile (· != 10)).length := by
              rw [HG.out, h4]
              simp
              omega
            have e2 := (List.takeWhile_sublist (l := L.drop (k + 1)) (· != (10 : UInt8))).length_le
            rw [List.length_drop, HLN.out] at e2
            refine ⟨by omega, by omega, ?_⟩
            have e3 : L.drop (k + (1 + ((L.drop (k + 1)).takeWhile (· != 10)).length)) = (L.drop (k + 1)).drop ((L.drop (k + 1)).takeWhile (· != 10)).length := by
              rw [List.drop_drop]
              congr 1
              omega
            rw [e1, e3, drop_tw, ← HA.out, HG.out, h4, blank_rem]
          clear hb h1 h2 h3 h4 hm
          obtain ⟨hm0, hm1, hm2⟩ := hmf
          have HN := hid hm2
          clear hm2
          have hwk : IntKind.i64.wrap ((k : Int) + (m : Int)) = (k : Int) + (m : Int) := by rw [IntKind.wrap_i64]; omega
          go_wp2_with fail
          refine HCL.out.mono ?_
          rintro e w1 ⟨rfl, rfl⟩
          go_wp2_with fail
          go_round
          case rel => exact ⟨k + m, by omega, by go_num, HN⟩
          case measure => simp [intOf]; omega
        · rw [decide_eq_false h4] at q4
          have HN : Hid (pst L a = k) := by
            unfold Hid pst
            rw [← HA.out, HG.out, blank_no _ h1 h2 h3 h4, ← HG.out, List.length_drop, HLN.out]
            omega
          clear hb h1 h2 h3 h4
          go_wp2_with fail
          go_ret
          exact ⟨ret_i (by rw [HN.out]), rfl⟩
    · obtain rfl : k = s.size := by omega
      have hlt2 : ¬ (s.size : Int) < (s.size : Int) := by omega
      have HN : Hid (pst L a = s.size) := by
        unfold Hid pst
        rw [← HA.out, List.drop_of_length_le (by rw [HLN.out]; exact Nat.le_refl _), blank, HLN.out]
        simp
      go_wp2_with fail
      go_ret
      exact ⟨ret_i (by rw [HN.out]), rfl⟩

theorem pst_le (L : List UInt8) (a : Nat) : pst L a ≤ L.length := Nat.sub_le _ _
theorem blank_suf : ∀ (n : Nat) (l : List UInt8), l.length ≤ n → blank l <:+ l
  | _, [], _ => by rw [blank]; exact List.suffix_refl _
  | 0, c :: r, h => by simp at h
  | n + 1, c :: r, h => by
    rw [blank]
    simp at h
    have h2 := (List.dropWhile_sublist (l := r) (· != 10)).length_le
    split
    · exact (blank_suf n r h).trans (List.suffix_cons _ _)
    · split
      · exact ((blank_suf n (r.dropWhile (· != 10)) (by omega)).trans (List.dropWhile_suffix _)).trans (List.suffix_cons _ _)
      · exact List.suffix_refl _
theorem drop_pst (L : List UInt8) (a : Nat) : L.drop (pst L a) = blank (L.drop a) := by
  have h1 := blank_suf _ (L.drop a) (Nat.le_refl _)
  have h2 := h1.trans (List.drop_suffix a L)
  obtain ⟨t, ht⟩ := h2
  unfold pst
  have hl : L.length = t.length + (blank (L.drop a)).length := by
    have := congrArg List.length ht
    rw [List.length_append] at this
    omega
  rw [hl, Nat.add_sub_cancel]
  generalize blank (L.drop a) = b at ht
  rw [← ht, List.drop_left]
/-- a token in memory -/
def tokv (t : Tok) : Value := .agg #[.int .i64 (t.kind : Int), .int .i64 (t.at' : Int), .string (bs t.text)]

set_option maxRecDepth 100000 in
set_option maxHeartbeats 1000000 in
theorem tokenAt_any (s : ByteArray) (a : Nat) (w : World) (hs : s.size ≤ 1000000) (ha : a ≤ s.size) : Calls Tryd.prog 21 #[.string s, .int .i64 (a : Int)] w fun e w' => e = .returned (tokv (tok (by' s) a)) ∧ Below w.heap.size w w' := by
  have HPB := hid (fun W => pastBlanks_any s a W hs ha)
  obtain ⟨L, hL⟩ : ∃ L, by' s = L := ⟨_, rfl⟩
  have hl := by_len s
  rw [hL] at hl HPB ⊢
  have HL := hid hL
  have HLN := hid hl
  obtain ⟨k, hk⟩ : ∃ k, pst L a = k := ⟨_, rfl⟩
  have hkl : k ≤ s.size := by rw [← hk, ← hl]; exact pst_le L a
  obtain ⟨r, hr⟩ : ∃ r, r = s.extract k s.size := ⟨_, rfl⟩
  have hbr : by' r = blank (L.drop a) := by rw [hr, by_ext, hL, List.take_of_length_le (by rw [List.length_drop, hl]; omega), ← hk, drop_pst]
  have hrl : r.size = s.size - k := by rw [← by_len r, hbr, ← drop_pst, hk, List.length_drop, hl]
  rw [hk] at HPB
  have htk : tok L a = tokR L.length (by' r) := by rw [hbr]; rfl
  have HTK := hid htk
  have HHK : Hid (L.length - (by' r).length = k) := by unfold Hid; rw [by_len, hrl, hl]; omega
  have hkk : (k : Int) ≤ (s.size : Int) := by omega
  replace hr := hr.symm
  obtain ⟨V, hV⟩ : ∃ V, V = w.alloc (.cells #[.int .i64 0, .int .i64 0, .string ⟨#[]⟩] 66) := ⟨_, rfl⟩
  clear hL hl ha hk hbr htk
  by_cases hz : by' r = []
  · have HTT : Hid (tok L a = ⟨1, k, []⟩) := by
      have h9 := HHK.out
      unfold Hid
      rw [HTK.out, tokR, if_pos hz]
      rw [hz] at h9
      simp at h9
      rw [h9]
    have t1 : (r.toList == []) = true := by rw [by_list, hz]; rfl
    rw [HTT.out]
    go_enter Tryd.func21, Tryd.ntmps21
    go_wp2_with fail
    refine (HPB.out _).mono ?_
    rintro e w1 ⟨rfl, rfl⟩
    go_wp2_with fail
    refine bodyPost_ret (results_cell_row rfl _ _ w.heap.size 66 #[.int .i64 1, .int .i64 (k : Int), .string ⟨#[]⟩] (0, 0) _ rfl (heap_alloc_new w _) Tryd.underlying66 rfl (by kernel_rfl)) rfl ?_
    exact ⟨rfl, (Below.refl _ _).alloc (Nat.le_refl _) _⟩
  · have t1 : (r.toList == []) = false := by rw [by_list]; simpa using hz
    have hr0 : 0 < r.size := by
      rw [← by_len]
      exact List.length_pos_iff.2 hz
    obtain ⟨n, hn⟩ : ∃ n, ((by' r).takeWhile inWd).length = n := ⟨_, rfl⟩
    have HWL := hid (fun W => wordLen_any r W (by omega))
    rw [hn] at HWL
    have hnl : n ≤ r.size := by
      rw [← hn, ← by_len]
      exact (List.takeWhile_sublist _).length_le
    have hkn : (n : Int) ≤ (r.size : Int) := by omega
    have htx : by' (r.extract 0 n) = (by' r).takeWhile inWd := by
      rw [by_ext, ← hn]
      simp
      exact (List.prefix_iff_eq_take.1 (List.takeWhile_prefix inWd)).symm
    by_cases h0 : 0 < n
    · have HTT : Hid (tok L a = ⟨wkd (by' (r.extract 0 n)), k, by' (r.extract 0 n)⟩) := by
        unfold Hid
        rw [HTK.out, tokR, if_neg hz, if_pos (by intro e; rw [e] at hn; simp at hn; omega), HHK.out, htx]
      have HWK := hid (fun W => wordKind_any (r.extract 0 n) W (by rw [← by_len, htx, hn]; omega) (by rw [← by_len, htx, hn]; exact h0))
      rw [HTT.out]
      have h0i : (0 : Int) < (n : Int) := by omega
      obtain ⟨x, hx⟩ : ∃ x, r.extract 0 n = x := ⟨_, rfl⟩
      rw [hx] at HWK ⊢
      have hmx : Tryd.prog.follows .mixedOrders = true := by kernel_rfl
      clear hn htx hz hr0 h0 hrl
      obtain ⟨wk, hwk⟩ : ∃ wk, wkd (by' x) = wk := ⟨_, rfl⟩
      rw [hwk] at HWK ⊢
      clear hwk
      have hsx : bs (by' x) = x := bs_by x
      go_enter Tryd.func21, Tryd.ntmps21
      go_wp2_with fail
      refine (HPB.out _).mono ?_
      rintro e w1 ⟨rfl, rfl⟩
      go_wp2_with fail
      refine (HWL.out _).mono ?_
      rintro e w1 ⟨rfl, rfl⟩
      go_wp2_with fail
      rw [← hV]
      have hVh : V.heap[w.heap.size]? = some (.cells #[.int .i64 0, .int .i64 0, .string ⟨#[]⟩] 66 (0, 0)) := by rw [hV]; exact heap_alloc_new w _
      have HVB : Hid (Below w.heap.size w V) := by unfold Hid; rw [hV]; exact (Below.refl _ _).alloc (Nat.le_refl _) _
      have HVH := hid hVh
      have z0 : ∀ d, ({ V with drawn := d } : World).cell? ⟨w.heap.size, 0, none⟩ = some (.int .i64 0) := fun d => by simp [World.cell?, hVh]
      have z1 : ∀ d, ({ V with drawn := d } : World).cell? ⟨w.heap.size, 1, none⟩ = some (.int .i64 0) := fun d => by simp [World.cell?, hVh]
      have z2 : ∀ d, ({ V with drawn := d } : World).cell? ⟨w.heap.size, 2, none⟩ = some (.string ⟨#[]⟩) := fun d => by simp [World.cell?, hVh]
      have z3 : ∀ d i, ({ V with drawn := d } : World).frozen? ⟨w.heap.size, i, none⟩ = false := fun d i => frozen_of_row _ _ i _ _ (show ({ V with drawn := d } : World).heap[w.heap.size]? = _ from hVh)
      clear hV hVh
      go_still_tail 9, hmx
      still_call (HWK.out _)
      (repeat still_step)
      refine wpStill_nil ?_
      go_wp2_with fail
      have hh := heap_setCell_same _ w.heap.size 2 _ _ (.string x) (heap_setCell_same _ w.heap.size 1 _ _ (.int .i64 (k : Int)) (heap_setCell_same V w.heap.size 0 _ _ (.int .i64 (wk : Int)) HVH.out))
      refine bodyPost_ret (results_cell_row rfl _ _ w.heap.size 66 #[.int .i64 (wk : Int), .int .i64 (k : Int), .string x] (0, 0) _ rfl (by exact hh) Tryd.underlying66 rfl (by kernel_rfl)) rfl ?_
      exact ⟨by unfold tokv; rw [hsx], (((HVB.out.setCell (p := ⟨w.heap.size, 0, none⟩) (Nat.le_refl _) _).setCell (p := ⟨w.heap.size, 1, none⟩) (Nat.le_refl _) _).setCell (p := ⟨w.heap.size, 2, none⟩) (Nat.le_refl _) _).drew⟩
    · obtain rfl : n = 0 := by omega
      have HS := hid (fun W => sign_any r W hr0)
      have hs2 := sgn_two (by' r)
      have hs3 := hs2.2.2 hz
      rw [by_len] at hs3
      obtain ⟨kd, hkd⟩ : ∃ kd, (sgn (by' r)).1 = kd := ⟨_, rfl⟩
      obtain ⟨m, hm⟩ : ∃ m, (sgn (by' r)).2 = m := ⟨_, rfl⟩
      have HTT : Hid (tok L a = ⟨kd, k, by' (r.extract 0 m)⟩) := by
        unfold Hid
        rw [HTK.out, tokR, if_neg hz, if_neg (by intro h; exact h (List.length_eq_zero_iff.1 hn)), HHK.out, by_ext, hkd, hm]
        simp
      rw [hm] at hs3
      rw [hkd, hm] at HS
      rw [HTT.out]
      have hmi : (m : Int) ≤ (r.size : Int) := by omega
      obtain ⟨x, hx⟩ : ∃ x, r.extract 0 m = x := ⟨_, rfl⟩
      rw [hx]
      have hsx : bs (by' x) = x := bs_by x
      have hml : m ≤ r.size := hs3
      clear hn htx hz hr0 h0 hs2 hs3 hkd hm hrl
      go_enter Tryd.func21, Tryd.ntmps21
      go_wp2_with fail
      refine (HPB.out _).mono ?_
      rintro e w1 ⟨rfl, rfl⟩
      go_wp2_with fail
      refine (HWL.out _).mono ?_
      rintro e w1 ⟨rfl, rfl⟩
      go_wp2_with fail
      refine (HS.out _).mono ?_
      rintro e w1 ⟨rfl, rfl⟩
      go_wp2_with fail
      refine bodyPost_ret (results_cell_row rfl _ _ w.heap.size 66 #[.int .i64 (kd : Int), .int .i64 (k : Int), .string x] (0, 0) _ rfl (heap_alloc_new w _) Tryd.underlying66 rfl (by kernel_rfl)) rfl ?_
      exact ⟨by unfold tokv; rw [hsx], (Below.refl _ _).alloc (Nat.le_refl _) _⟩

end Go.Proofs.YthpkcageimhgaaaDoor
