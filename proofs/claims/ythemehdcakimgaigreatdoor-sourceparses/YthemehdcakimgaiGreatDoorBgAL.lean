/- The reference of programs as text: the next token. The reference of programs as text: signs, words, names, levels. -/
import Derived.Test.YthemehdcakimgaiGreatDoorBgAK
namespace Go.Proofs.YthemehdcakimgaiGreatDoor
open Go.RowKit

theorem blank_dw (L : List UInt8) (k : Nat) (h : k < L.length) (hc : ¬ L.getD k 0 = 10) : (L.drop k).dropWhile (· != 10) = (L.drop (k + 1)).dropWhile (· != 10) := by
  rw [drop_cons L k h, List.dropWhile_cons, if_pos (by simpa using hc)]
theorem tw_at (r : List UInt8) (p : UInt8 → Bool) (m : Nat) (hm : m < r.length) (h : ∀ j, j < m → p (r.getD j 0) = true) (hn : p (r.getD m 0) = false) : (r.takeWhile p).length = m := by
  induction r generalizing m with
  | nil => simp at hm
  | cons x y ih =>
    cases m with
    | zero =>
      have : p x = false := hn
      simp [this]
    | succ m =>
      have h0 : p x = true := h 0 (by omega)
      rw [List.takeWhile_cons, h0]
      simp
      exact ih m (by simpa using hm) (fun j hj => h (j + 1) (by omega)) hn
theorem tw_to (r : List UInt8) (p : UInt8 → Bool) (h : ∀ j, j < r.length → p (r.getD j 0) = true) : r.takeWhile p = r := by
  induction r with
  | nil => rfl
  | cons x y ih =>
    have h0 : p x = true := h 0 (by simp)
    rw [List.takeWhile_cons, h0]
    simp
    exact ih fun j hj => h (j + 1) (by simpa using hj)
theorem getD_drop (L : List UInt8) (k j : Nat) : (L.drop k).getD j 0 = L.getD (k + j) 0 := by
  rw [List.getD_eq_getElem?_getD, List.getElem?_drop, List.getD_eq_getElem?_getD]
/-- what a token is, by what stands first -/
theorem tok_pst (L : List UInt8) (a : Nat) : (tok L a).at' = pst L a := by
  unfold tok pst
  generalize blank (L.drop a) = r
  unfold tokR
  by_cases hr : r = []
  · rw [if_pos hr, hr]; simp
  · rw [if_neg hr]
    split <;> rfl
/-- what Next leaves -/
def NxR (R : Nat) (T : ByteArray) (i : Nat) (dp : Int) (w : World) (en : Ending) (w' : World) : Prop := en = .returned (.tuple #[]) ∧ Fr R w w' ∧ RgR w' R T ((tok (by' T) i).at' : Nat) (if tkb (by' T) i = true then bs [] else bs (tok (by' T) i).text) dp (if tkb (by' T) i = true then 5 else 0) (if tkb (by' T) i = true then ((tok (by' T) i).at' : Nat) else 0)
theorem sg1_cases (c : UInt8) (h : ¬ sg1 c = 0) : c = 40 ∨ c = 41 ∨ c = 44 ∨ c = 59 ∨ c = 43 ∨ c = 45 ∨ c = 42 ∨ c = 47 := by
  unfold sg1 at h
  repeat' split at h
  all_goals first | (exact absurd rfl h) | simp_all
theorem sg1_none (c : UInt8) (h : sg1 c = 0) : ¬ c = 40 ∧ ¬ c = 41 ∧ ¬ c = 44 ∧ ¬ c = 59 ∧ ¬ c = 43 ∧ ¬ c = 45 ∧ ¬ c = 42 ∧ ¬ c = 47 := by
  unfold sg1 at h
  repeat' split at h
  all_goals first | (cases h; done) | simp_all

set_option maxRecDepth 100000 in
set_option maxHeartbeats 2000000 in
theorem rnext_any (R i : Nat) (T tk0 : ByteArray) (at0 dp : Int) (w : World) (h : RgR w R T at0 tk0 dp 0 0) (hi : i ≤ T.size) (hT : T.size ≤ 4000) :
    Calls Tryz.prog 15 #[.pointer (some ⟨R, 0, none⟩), .int .i64 (i : Int)] w (NxR R T i dp w) := by
  have hnot : ∀ (x : Bool) (w : World), (Op.unary .not (.bool x)).run Tryz.prog w = .ok (.bool (!x)) w := fun _ _ => rfl
  have HIW := hid rinw_any
  obtain ⟨L, hL⟩ : ∃ L, by' T = L := ⟨_, rfl⟩
  have hl := by_len T
  rw [hL] at hl
  have HL := hid hL
  have HLN := hid hl
  obtain ⟨V, hV⟩ : ∃ V, V = w.setCell ⟨R, 2, none⟩ (.string ⟨#[]⟩) := ⟨_, rfl⟩
  have HV : Hid (RgR V R T at0 ⟨#[]⟩ dp 0 0) := by unfold Hid; rw [hV]; exact h.s2 _
  have HF : Hid (Fr R w V) := by unfold Hid; rw [hV]; exact (Fr.refl R w).set 2 _
  have c2 := h.c2
  have f2 := h.fz 2
  have v0 := HV.out.c0
  have v1 := HV.out.c1
  have v4 := HV.out.c4
  have g1 := HV.out.fz 1
  have HFL := hid rfail_any
  have HWD : Hid (∀ en w', NxR R T i dp w en w' → NxR R T i dp w en w') := fun _ _ h => h
  clear hL hl h
  go_enter Tryz.func15, Tryz.ntmps15
  go_wp2_with fail
  rw [← hV]
  clear hV c2 f2
  go_loop [1] (fun v => ∃ k : Nat, k ≤ T.size ∧ v = .int .i64 k ∧ Hid (blank (L.drop k) = blank (L.drop i))) (fun v => T.size - (intOf v).toNat)
  case atStart => exact ⟨i, hi, rfl, rfl⟩
  case round =>
    obtain ⟨k, hk, rfl, HA⟩ := hrel
    by_cases hlt : k < T.size
    · have hlt2 : (k : Int) < (T.size : Int) := by omega
      have hwr : IntKind.i64.wrap ((k : Int) + 1) = (k : Int) + 1 := by rw [IntKind.wrap_i64]; omega
      have hne : ((k : Int) == (T.size : Int)) = false := by simp; omega
      obtain ⟨c, hc⟩ : ∃ c, T[k] = c := ⟨_, rfl⟩
      have HG : Hid (L.drop k = c :: L.drop (k + 1)) := by
        unfold Hid
        rw [drop_cons L k (by rw [HLN.out]; exact hlt), ← HL.out, by_getD T k hlt, hc]
      have q1 : ((c.toNat : Int) == 32) = decide (c = 32) := u8_eq c 32
      have q2 : ((c.toNat : Int) == 9) = decide (c = 9) := u8_eq c 9
      have q3 : ((c.toNat : Int) == 10) = decide (c = 10) := u8_eq c 10
      have q4 : ((c.toNat : Int) == 35) = decide (c = 35) := u8_eq c 35
      by_cases h4 : c = 35
      · rw [decide_eq_true h4] at q4
        have HA2 : Hid (blank ((L.drop k).dropWhile (· != 10)) = blank (L.drop i)) := by
          unfold Hid
          rw [← HA.out, blank_dw L k (by rw [HLN.out]; exact hlt) (by rw [← HL.out, by_getD T k hlt, hc, h4]; decide), HG.out, h4, blank_rem]
        have HK : Hid (k < T.size ∧ ¬ L.getD k 0 = 10) := ⟨hlt, by rw [← HL.out, by_getD T k hlt, hc, h4]; decide⟩
        clear h4 q1 q2 q3 HG HA
        go_wp2_with fail
        clear hc q4 hlt2 hwr hne
        go_loop [1] (fun v => ∃ m : Nat, m ≤ T.size ∧ v = .int .i64 m ∧ Hid (blank ((L.drop m).dropWhile (· != 10)) = blank (L.drop i)) ∧ Hid (k < m ∨ (m = k ∧ k < T.size ∧ ¬ L.getD k 0 = 10))) (fun v => T.size - (intOf v).toNat)
        case atStart => exact ⟨k, hk, rfl, HA2, Or.inr ⟨rfl, HK.out⟩⟩
        case round =>
          obtain ⟨m, hm, rfl, HB, HKM⟩ := hrel
          by_cases hlm : m < T.size
          · have hlm2 : (m : Int) < (T.size : Int) := by omega
            have hwm : IntKind.i64.wrap ((m : Int) + 1) = (m : Int) + 1 := by rw [IntKind.wrap_i64]; omega
            obtain ⟨d, hd⟩ : ∃ d, T[m] = d := ⟨_, rfl⟩
            have HD : Hid (L.getD m 0 = d) := by unfold Hid; rw [← HL.out, by_getD T m hlm, hd]
            have q5 : ((d.toNat : Int) != 10) = !decide (d = 10) := congrArg not (u8_eq d 10)
            by_cases hd10 : d = 10
            · rw [decide_eq_true hd10] at q5
              have HKM2 : Hid (k < m) := by
                rcases HKM.out with h | ⟨h1, _, h2⟩
                · exact h
                · rw [← h1, HD.out] at h2; exact absurd hd10 h2
              have HN : Hid (blank (L.drop m) = blank (L.drop i)) := by
                unfold Hid
                have := HB.out
                rw [drop_cons L m (by rw [HLN.out]; exact hlm), HD.out, hd10, List.dropWhile_cons, if_neg (by decide)] at this
                rw [drop_cons L m (by rw [HLN.out]; exact hlm), HD.out, hd10]
                exact this
              have hkm : k < m := HKM2.out
              clear hd10 HB
              go_wp2_with fail
              go_round
              case rel => exact ⟨m, by omega, by go_num, HN⟩
              case measure => simp [intOf]; omega
            · rw [decide_eq_false hd10] at q5
              have HB2 : Hid (blank ((L.drop (m + 1)).dropWhile (· != 10)) = blank (L.drop i)) := by
                unfold Hid
                rw [← blank_dw L m (by rw [HLN.out]; exact hlm) (by rw [HD.out]; exact hd10)]
                exact HB.out
              have HKM2 : Hid (k < m + 1) := by
                unfold Hid
                rcases HKM.out with h | ⟨h1, _, h2⟩ <;> omega
              clear hd10 HB
              go_wp2_with fail
              go_round
              case rel => exact ⟨m + 1, by omega, by go_num, HB2, Or.inl HKM2.out⟩
              case measure => simp [intOf]; omega
          · obtain rfl : m = T.size := by omega
            have hlm2 : ¬ (T.size : Int) < (T.size : Int) := by omega
            have HN : Hid (blank (L.drop T.size) = blank (L.drop i)) := by
              unfold Hid
              have := HB.out
              rw [List.drop_of_length_le (by rw [HLN.out]; exact Nat.le_refl _)] at this ⊢
              exact this
            have hkm : k < T.size := hlt
            clear HB
            go_wp2_with fail
            go_round
            case rel => exact ⟨T.size, by omega, by go_num, HN⟩
            case measure => simp [intOf]; omega
      · rw [decide_eq_false h4] at q4
        by_cases hb : c = 32 ∨ c = 9 ∨ c = 10
        · have HN : Hid (blank (L.drop (k + 1)) = blank (L.drop i)) := by
            unfold Hid
            rw [← HA.out, HG.out, blank_sp _ hb]
          by_cases h1 : c = 32
          · rw [decide_eq_true h1] at q1
            clear hb h1 q2 q3 h4 HA HG
            go_wp2_with fail
            go_round
            case rel => exact ⟨k + 1, by omega, by go_num, HN⟩
            case measure => simp [intOf]; omega
          · by_cases h2 : c = 9
            · rw [decide_eq_false h1] at q1
              rw [decide_eq_true h2] at q2
              clear hb h1 h2 q3 h4 HA HG
              go_wp2_with fail
              go_round
              case rel => exact ⟨k + 1, by omega, by go_num, HN⟩
              case measure => simp [intOf]; omega
            · have h3 : c = 10 := by rcases hb with h | h | h; exact absurd h h1; exact absurd h h2; exact h
              rw [decide_eq_false h1] at q1
              rw [decide_eq_false h2] at q2
              rw [decide_eq_true h3] at q3
              clear hb h1 h2 h3 h4 HA HG
              go_wp2_with fail
              go_round
              case rel => exact ⟨k + 1, by omega, by go_num, HN⟩
              case measure => simp [intOf]; omega
        · have h1 : ¬ c = 32 := fun e => hb (.inl e)
          have h2 : ¬ c = 9 := fun e => hb (.inr (.inl e))
          have h3 : ¬ c = 10 := fun e => hb (.inr (.inr e))
          have HBL : Hid (blank (L.drop i) = L.drop k) := by
            unfold Hid
            rw [← HA.out, HG.out, blank_no _ h1 h2 h3 h4]
          have HPS : Hid (pst L i = k) := by
            unfold Hid pst
            rw [HBL.out, List.length_drop, HLN.out]
            omega
          rw [decide_eq_false h1] at q1
          rw [decide_eq_false h2] at q2
          rw [decide_eq_false h3] at q3
          clear hb h1 h2 h3 h4 HA
          obtain ⟨U, hU⟩ : ∃ U, U = V.setCell ⟨R, 1, none⟩ (.int .i64 (k : Int)) := ⟨_, rfl⟩
          have HU : Hid (RgR U R T (k : Int) ⟨#[]⟩ dp 0 0) := by unfold Hid; rw [hU]; exact HV.out.s1 _
          have HFU : Hid (Fr R w U) := by unfold Hid; rw [hU]; exact HF.out.set 1 _
          have u0 := HU.out.c0
          have u2 := HU.out.c2
          have u4 := HU.out.c4
          have x2 := HU.out.fz 2
          replace hU := hU.symm
          go_wp2_with fail
          clear hU v0 v1 v4 g1 q1 q2 q3 q4 hwr
          go_loop [5] (fun v => ∃ m : Nat, k ≤ m ∧ m ≤ T.size ∧ v = .int .i64 m ∧ Hid (∀ j, j < m - k → inWd ((L.drop k).getD j 0) = true)) (fun v => T.size - (intOf v).toNat)
          case atStart => exact ⟨k, Nat.le_refl _, hk, rfl, fun j hj => by omega⟩
          case round =>
            obtain ⟨m, hkm, hm, rfl, HB⟩ := hrel
            by_cases hlm : m < T.size
            · have hlm2 : (m : Int) < (T.size : Int) := by omega
              have hwm : IntKind.i64.wrap ((m : Int) + 1) = (m : Int) + 1 := by rw [IntKind.wrap_i64]; omega
              obtain ⟨d, hd⟩ : ∃ d, T[m] = d := ⟨_, rfl⟩
              have HD : Hid ((L.drop k).getD (m - k) 0 = d) := by unfold Hid; rw [getD_drop, show k + (m - k) = m by omega, ← HL.out, by_getD T m hlm, hd]
              cases hw : inWd d with
              | true =>
                have HB2 : Hid (∀ j, j < m + 1 - k → inWd ((L.drop k).getD j 0) = true) := fun j hj => by
                  rcases Nat.lt_or_ge j (m - k) with g | g
                  · exact HB.out j g
                  · obtain rfl : j = m - k := by omega
                    rw [HD.out]; exact hw
                go_wp2_with fail
                refine (HIW.out d _).mono ?_
                rintro e w1 ⟨rfl, rfl⟩
                rw [hw]
                clear hw HB HD
                go_wp2_with fail
                go_round
                case rel => exact ⟨m + 1, by omega, by omega, by go_num, HB2⟩
                case measure => simp [intOf]; omega
              | false =>
                have HTW : Hid (((L.drop k).takeWhile inWd).length = m - k) := tw_at _ _ _ (by rw [List.length_drop, HLN.out]; omega) HB.out (by rw [HD.out]; exact hw)
                go_wp2_with fail
                refine (HIW.out d _).mono ?_
                rintro e w1 ⟨rfl, rfl⟩
                rw [hw]
                clear hw
                by_cases hkk : k < m
                · have q5 : ((m : Int) == (k : Int)) = false := by simp; omega
                  have q6 : (k : Int) ≤ (m : Int) := by omega
                  have q7 : (m : Int) ≤ (T.size : Int) := by omega
                  have HTK : Hid (tkb L i = false ∧ (tok L i).text = (L.drop k).takeWhile inWd) := by
                    have hne2 : (L.drop k).takeWhile inWd ≠ [] := fun e => by have := HTW.out; rw [e] at this; simp at this; omega
                    refine ⟨?_, ?_⟩
                    · unfold tkb; rw [HBL.out]; simp [hne2]
                    · unfold tok tokR; rw [HBL.out, if_neg (by rw [HG.out]; simp), if_pos hne2]
                  have HX : Hid (T.extract k m = bs ((L.drop k).takeWhile inWd)) := by
                    unfold Hid
                    apply by_inj
                    rw [by_ext, by_bs, HL.out, ← HTW.out]
                    exact (List.prefix_iff_eq_take.1 (List.takeWhile_prefix inWd)).symm
                  clear hkk hd hlm2 hwm HB HD
                  go_wp2_with fail
                  go_end0
                  refine HWD.out _ _ ⟨rfl, HFU.out.set 2 _, ?_⟩
                  rw [HL.out, tok_pst, HPS.out, HTK.out.1, if_neg (by decide), if_neg (by decide), if_neg (by decide), HTK.out.2, ← HX.out]
                  exact HU.out.s2 _
                · obtain rfl : m = k := by omega
                  have hdc : d = c := by rw [← hd, hc]
                  subst hdc
                  have q5 : ((m : Int) == (m : Int)) = true := by simp
                  have HTW0 : Hid ((L.drop m).takeWhile inWd = []) := by
                    have := HTW.out
                    rw [Nat.sub_self] at this
                    exact List.length_eq_zero_iff.1 this
                  have HTT : Hid ((tok L i).text = (L.drop m).take (sgn (L.drop m)).2) := by
                    unfold Hid tok tokR; rw [HBL.out, if_neg (by rw [HG.out]; simp), if_neg (by rw [HTW0.out]; simp)]
                  have HTB : Hid (tkb L i = decide ((sgn (L.drop m)).1 = 0)) := by
                    unfold Hid tkb
                    rw [HBL.out, HTW0.out, HG.out]
                    simp
                  have q6 : (m : Int) ≤ (T.size : Int) := by omega
                  have w1' : IntKind.i64.wrap ((m : Int) + 1) = (m : Int) + 1 := hwm
                  have q8 : (m : Int) ≤ (m : Int) + 1 := by omega
                  clear hkk HB HD HTW hkm
                  by_cases h61 : d = 61
                  · by_cases h2 : m + 1 < T.size ∧ L.getD (m + 1) 0 = 61
                    · obtain ⟨h2a, h2b⟩ := h2
                      have q9 : (m : Int) + 1 < (T.size : Int) := by omega
                      have q9' : m + 1 < T.size := h2a
                      have hd2 : T[m + 1] = 61 := by rw [← by_getD T (m + 1) h2a, HL.out]; exact h2b
                      have w2' : IntKind.i64.wrap ((m : Int) + 2) = (m : Int) + 2 := by rw [IntKind.wrap_i64]; omega
                      have q10 : (m : Int) ≤ (m : Int) + 2 := by omega
                      have q11 : (m : Int) + 2 ≤ (T.size : Int) := by omega
                      have HSG : Hid (sgn (L.drop m) = (15, 2) ∧ L.drop m = 61 :: 61 :: L.drop (m + 1 + 1)) := by
                        have e2 : L.drop m = 61 :: 61 :: L.drop (m + 1 + 1) := by rw [HG.out, h61, drop_cons L (m + 1) (by rw [HLN.out]; exact h2a), h2b]
                        refine ⟨?_, e2⟩
                        rw [e2]; rfl
                      have HX : Hid (T.extract m (m + 2) = bs (tok L i).text) := by
                        unfold Hid
                        apply by_inj
                        rw [by_ext, by_bs, HL.out, HTT.out, HSG.out.1, show m + 2 - m = 2 by omega]
                      subst h61
                      clear h2b
                      go_wp2_with fail
                      go_end0
                      refine HWD.out _ _ ⟨rfl, HFU.out.set 2 _, ?_⟩
                      rw [HL.out, tok_pst, HPS.out, HTB.out, HSG.out.1]
                      simp only [show decide ((15 : Nat) = 0) = false from rfl, if_neg (show ¬ false = true by decide)]
                      rw [← HX.out]
                      exact HU.out.s2 _
                    · have HSG : Hid (sgn (L.drop m) = (14, 1)) := by
                        unfold Hid
                        rw [HG.out, h61]
                        rcases sgn_eq (L.drop (m + 1)) with ⟨_, r', e⟩ | e
                        · exfalso
                          apply h2
                          have hl2 : m + 1 < L.length := by
                            apply Classical.byContradiction
                            intro hh
                            rw [List.drop_of_length_le (by omega)] at e
                            cases e
                          refine ⟨by rw [← HLN.out]; exact hl2, ?_⟩
                          rw [drop_cons L (m + 1) hl2] at e
                          injection e
                        · exact e
                      have HX : Hid (T.extract m (m + 1) = bs (tok L i).text) := by
                        unfold Hid
                        apply by_inj
                        rw [by_ext, by_bs, HL.out, HTT.out, HSG.out, show m + 1 - m = 1 by omega]
                      have q11 : (m : Int) + 1 ≤ (T.size : Int) := by omega
                      subst h61
                      by_cases h3 : m + 1 < T.size
                      · have q9 : (m : Int) + 1 < (T.size : Int) := by omega
                        obtain ⟨d2, hd2⟩ : ∃ d2, T[m + 1] = d2 := ⟨_, rfl⟩
                        have hd61 : ¬ d2 = 61 := fun e => h2 ⟨h3, by rw [← HL.out, by_getD T (m + 1) h3, hd2, e]⟩
                        have q12 : ((d2.toNat : Int) == 61) = false := (u8_eq d2 61).trans (decide_eq_false hd61)
                        clear h2 hd61
                        go_wp2_with fail
                        go_end0
                        refine HWD.out _ _ ⟨rfl, HFU.out.set 2 _, ?_⟩
                        rw [HL.out, tok_pst, HPS.out, HTB.out, HSG.out]
                        simp only [show decide ((14 : Nat) = 0) = false from rfl, if_neg (show ¬ false = true by decide)]
                        rw [← HX.out]
                        exact HU.out.s2 _
                      · have q9 : ¬ (m : Int) + 1 < (T.size : Int) := by omega
                        clear h2
                        go_wp2_with fail
                        go_end0
                        refine HWD.out _ _ ⟨rfl, HFU.out.set 2 _, ?_⟩
                        rw [HL.out, tok_pst, HPS.out, HTB.out, HSG.out]
                        simp only [show decide ((14 : Nat) = 0) = false from rfl, if_neg (show ¬ false = true by decide)]
                        rw [← HX.out]
                        exact HU.out.s2 _
                  · have HSG : Hid (sgn (L.drop m) = (sg1 d, 1)) := by
                      unfold Hid
                      rw [HG.out]
                      exact sgn_one _ h61
                    have HX : Hid (T.extract m (m + 1) = bs (tok L i).text) := by
                      unfold Hid
                      apply by_inj
                      rw [by_ext, by_bs, HL.out, HTT.out, HSG.out, show m + 1 - m = 1 by omega]
                    have q11 : (m : Int) + 1 ≤ (T.size : Int) := by omega
                    by_cases hs : sg1 d = 0
                    · obtain ⟨n1, n2, n3, n4, n5, n6, n7, n8⟩ := sg1_none d hs
                      have p0 : ((d.toNat : Int) == 61) = false := (u8_eq d 61).trans (decide_eq_false h61)
                      have p1 : ((d.toNat : Int) == 40) = false := (u8_eq d 40).trans (decide_eq_false n1)
                      have p2 : ((d.toNat : Int) == 41) = false := (u8_eq d 41).trans (decide_eq_false n2)
                      have p3 : ((d.toNat : Int) == 44) = false := (u8_eq d 44).trans (decide_eq_false n3)
                      have p4 : ((d.toNat : Int) == 59) = false := (u8_eq d 59).trans (decide_eq_false n4)
                      have p5 : ((d.toNat : Int) == 43) = false := (u8_eq d 43).trans (decide_eq_false n5)
                      have p6 : ((d.toNat : Int) == 45) = false := (u8_eq d 45).trans (decide_eq_false n6)
                      have p7 : ((d.toNat : Int) == 42) = false := (u8_eq d 42).trans (decide_eq_false n7)
                      have p8 : ((d.toNat : Int) == 47) = false := (u8_eq d 47).trans (decide_eq_false n8)
                      have HCF := hid (HFL.out R T ⟨#[]⟩ (m : Int) dp 0 0 5 (m : Int) w1 HU.out)
                      have HS0 := hid hs
                      clear n1 n2 n3 n4 n5 n6 n7 n8 h61 hs
                      go_wp2_with fail
                      refine HCF.out.mono ?_
                      rintro e w2 ⟨rfl, hf2, hr2⟩
                      have HR2 := hid hr2
                      have HF2 := hid (HFU.out.trans hf2)
                      clear hf2 hr2
                      go_wp2_with fail
                      go_end0
                      refine HWD.out _ _ ⟨rfl, HF2.out, ?_⟩
                      rw [HL.out, tok_pst, HPS.out, HTB.out, HSG.out, HS0.out]
                      exact HR2.out
                    · have HS0 := hid hs
                      have HEN : Hid (∀ W, W = w1.setCell ⟨R, 2, none⟩ (.string (T.extract m (m + 1))) → NxR R T i dp w (.returned (.tuple #[])) W) := by
                        intro W hW
                        rw [hW]
                        refine ⟨rfl, HFU.out.set 2 _, ?_⟩
                        rw [HL.out, tok_pst, HPS.out, HTB.out, HSG.out, decide_eq_false HS0.out]
                        simp only [if_neg (show ¬ false = true by decide)]
                        rw [← HX.out]
                        exact HU.out.s2 _
                      clear HX HSG HS0 HTB HTT HTW0 HG
                      rcases sg1_cases d hs with rfl | rfl | rfl | rfl | rfl | rfl | rfl | rfl
                      all_goals
                        clear hs h61
                        go_wp2_with fail
                        go_end0
                        exact HWD.out _ _ (HEN.out _ rfl)
            · obtain rfl : m = T.size := by omega
              have hlm2 : ¬ (T.size : Int) < (T.size : Int) := by omega
              have HTW : Hid ((L.drop k).takeWhile inWd = L.drop k) := tw_to _ _ (fun j hj => HB.out j (by rw [List.length_drop, HLN.out] at hj; exact hj))
              have q5 : ((T.size : Int) == (k : Int)) = false := by simp; omega
              have q6 : (k : Int) ≤ (T.size : Int) := by omega
              have HTK : Hid (tkb L i = false ∧ (tok L i).text = L.drop k) := by
                have hne2 : (L.drop k).takeWhile inWd ≠ [] := by rw [HTW.out, HG.out]; simp
                refine ⟨?_, ?_⟩
                · unfold tkb; rw [HBL.out]; simp [hne2]
                · unfold tok tokR; rw [HBL.out, if_neg (by rw [HG.out]; simp), if_pos hne2]; exact HTW.out
              have HX : Hid (T.extract k T.size = bs (L.drop k)) := by
                unfold Hid
                apply by_inj
                rw [by_ext, by_bs, HL.out]
                exact List.take_of_length_le (by rw [List.length_drop, HLN.out]; exact Nat.le_refl _)
              clear HB
              go_wp2_with fail
              go_end0
              refine HWD.out _ _ ⟨rfl, HFU.out.set 2 _, ?_⟩
              rw [HL.out, tok_pst, HPS.out, HTK.out.1, if_neg (by decide), if_neg (by decide), if_neg (by decide), HTK.out.2, ← HX.out]
              exact HU.out.s2 _
    · obtain rfl : k = T.size := by omega
      have hlt2 : ¬ (T.size : Int) < (T.size : Int) := by omega
      have hne : ((T.size : Int) == (T.size : Int)) = true := by simp
      have HBL : Hid (blank (L.drop i) = []) := by
        unfold Hid
        rw [← HA.out, List.drop_of_length_le (by rw [HLN.out]; exact Nat.le_refl _), blank]
      go_wp2_with fail
      go_end0
      refine HWD.out _ _ ⟨rfl, HF.out.set 1 _, ?_⟩
      have e1 : tok L i = ⟨1, T.size, []⟩ := by unfold tok tokR; rw [HBL.out, if_pos rfl, HLN.out]
      have e2 : tkb L i = false := by unfold tkb; rw [HBL.out]; simp
      rw [HL.out, e1, e2]
      exact HV.out.s1 _

end Go.Proofs.YthemehdcakimgaiGreatDoor

namespace Go.Proofs.YthemehdcakimgaiGreatDoor
open Go.RowKit

/-- the reference's reader at a token -/
structure RgG (w : World) (R : Nat) (T : ByteArray) (j l : Nat) : Prop where
  h : RgR w R T ((tok (by' T) j).at' : Nat) (bs (tok (by' T) j).text) (l : Nat) 0 0
  ok : tkb (by' T) j = false
  le : j ≤ T.size
  small : T.size ≤ 4000
  lev : l ≤ 64
/-- .. behind a fault -/
def RgF (w : World) (R : Nat) (T : ByteArray) (e a : Nat) : Prop := e ≠ 0 ∧ ∃ at' tk dp, RgR w R T at' tk dp (e : Nat) (a : Nat)
/-- .. behind a result -/
def RgW {α : Type} (w : World) (R : Nat) (T : ByteArray) (r : Res α) (l : Nat) : Prop := match r with
  | .ok _ j => RgG w R T j l ∨ ((tok (by' T) j).kind = 0 ∧ RgF w R T 5 (tok (by' T) j).at')
  | .bad e a => RgF w R T e a
  | .out => False
section
variable {w w' : World} {R : Nat} {T : ByteArray} {j l : Nat} {α β : Type}
theorem RgG.keep (h : RgG w R T j l) (hk : w'.heap[R]? = w.heap[R]?) : RgG w' R T j l := ⟨hk.trans h.h, h.ok, h.le, h.small, h.lev⟩
theorem RgF.keep {e a : Nat} (h : RgF w R T e a) (hk : w'.heap[R]? = w.heap[R]?) : RgF w' R T e a := by
  obtain ⟨h1, x, y, z, h2⟩ := h
  exact ⟨h1, x, y, z, hk.trans h2⟩
theorem RgW.keep {r : Res α} (h : RgW w R T r l) (hk : w'.heap[R]? = w.heap[R]?) : RgW w' R T r l := by
  cases r with
  | out => exact h.elim
  | bad e a => exact RgF.keep h hk
  | ok x j =>
    rcases h with h | ⟨h1, h2⟩
    · exact Or.inl (h.keep hk)
    · exact Or.inr ⟨h1, h2.keep hk⟩
theorem RgW.lt {r : Res α} (h : RgW w R T r l) : R < w.heap.size := by
  cases r with
  | out => exact h.elim
  | bad e a => obtain ⟨_, _, _, _, h⟩ := h; exact h.lt
  | ok x j =>
    rcases h with h | ⟨_, _, _, _, _, h⟩
    · exact h.h.lt
    · exact h.lt
theorem RgW.of {r : Res α} {r' : Res β} (h : RgW w R T r l) (hr : r'.bind (fun _ j => .ok () j) = r.bind (fun _ j => .ok () j)) : RgW w R T r' l := by
  cases r with
  | out => exact h.elim
  | bad e a =>
    cases r' with
    | out => cases hr
    | bad e' a' => injection hr with h1 h2; subst h1 h2; exact h
    | ok x j => cases hr
  | ok x j =>
    cases r' with
    | out => cases hr
    | bad e' a' => cases hr
    | ok y k => injection hr with h1 h2; subst h2; exact h
/-- either it goes on, or it doesn't -/
theorem RgW.cases {r : Res α} (h : RgW w R T r l) : (∃ x j, r = .ok x j ∧ RgG w R T j l) ∨ ∃ e a, RgF w R T e a ∧ (r = .bad e a ∨ ∃ x j, r = .ok x j ∧ (tok (by' T) j).kind = 0 ∧ e = 5 ∧ a = (tok (by' T) j).at') := by
  cases r with
  | out => exact h.elim
  | bad e a => exact Or.inr ⟨e, a, h, Or.inl rfl⟩
  | ok x j =>
    rcases h with h | ⟨h1, h2⟩
    · exact Or.inl ⟨x, j, rfl, h⟩
    · exact Or.inr ⟨_, _, h2, Or.inr ⟨x, j, rfl, h1, rfl, rfl⟩⟩
end

set_option maxRecDepth 100000 in
theorem ron_any (R j l : Nat) (T : ByteArray) (w : World) (h : RgG w R T j l) : Calls Tryz.prog 55 #[.pointer (some ⟨R, 0, none⟩)] w fun en w' => en = .returned (.tuple #[]) ∧ Fr R w w' ∧ RgW w' R T (.ok () (tok (by' T) j).nx) l := by
  have hta := tok_at (by' T) j (by rw [by_len]; exact h.le)
  rw [by_len] at hta
  have hsm := h.small
  have hsz : (bs (tok (by' T) j).text).size = (tok (by' T) j).text.length := bs_size _
  have HNX : Hid ((tok (by' T) j).nx ≤ T.size) := hta.2.1
  have HNE : Hid ((tok (by' T) j).nx = (tok (by' T) j).at' + (tok (by' T) j).text.length) := rfl
  have HH := hid h
  have c1 := h.h.c1
  have c2 := h.h.c2
  have HC := hid (rnext_any R (tok (by' T) j).nx T _ _ _ w.drew (show RgR w.drew R T _ _ _ _ _ from h.h) HNX.out hsm)
  have hw : IntKind.i64.wrap (((tok (by' T) j).at' : Int) + ((bs (tok (by' T) j).text).size : Int)) = ((tok (by' T) j).nx : Int) := by rw [IntKind.wrap_i64, hsz]; have := HNX.out; have := HNE.out; omega
  have HEN : Hid (∀ e W, NxR R T (tok (by' T) j).nx (l : Nat) w.drew e W → e = .returned (.tuple #[]) ∧ Fr R w W ∧ RgW W R T (.ok () (tok (by' T) j).nx) l) := fun e W hn => by
    refine ⟨hn.1, ((Fr.refl R w).drew).trans hn.2.1, ?_⟩
    have h3 := hn.2.2
    cases hb : tkb (by' T) (tok (by' T) j).nx with
    | true =>
      rw [hb] at h3
      exact Or.inr ⟨tkb_kind hb, by decide, _, _, _, h3⟩
    | false =>
      rw [hb] at h3
      exact Or.inl ⟨h3, hb, HNX.out, hsm, HH.out.lev⟩
  generalize (tok (by' T) j).nx = nx at *
  generalize (tok (by' T) j).at' = at' at *
  generalize bs (tok (by' T) j).text = tx at *
  have hmx : Tryz.prog.follows .mixedOrders = true := by kernel_rfl
  have d1 : ∀ d, ({ w with drawn := d } : World).cell? ⟨R, 1, none⟩ = some (.int .i64 (at' : Int)) := fun d => c1
  have d2 : ∀ d, ({ w with drawn := d } : World).cell? ⟨R, 2, none⟩ = some (.string tx) := fun d => c2
  clear hta h hsz HNE
  go_enter Tryz.func55, Tryz.ntmps55
  go_wp2_with fail
  go_still_tail 11, hmx
  go_wp2_with fail
  refine HC.out.mono ?_
  intro e w1 he
  obtain ⟨rfl, he2⟩ := HEN.out e w1 he
  have HE2 := hid he2
  clear he2 he
  go_wp2_with fail
  go_end0
  exact ⟨rfl, HE2.out⟩

set_option maxRecDepth 100000 in
set_option maxHeartbeats 1000000 in
theorem rtake_any {α : Type} (R l k : Nat) (T s : ByteArray) (r : Res α) (w : World) (h : RgW w R T r l) (h4 : 4 ≤ k) (h19 : k ≤ 19) (hs : by' s = spll k) : Calls Tryz.prog 33 #[.pointer (some ⟨R, 0, none⟩), .string s] w fun en w' => Fr R w w' ∧
    ((en = .returned (.bool true) ∧ ∃ x j, r = .ok x j ∧ (tok (by' T) j).kind = k ∧ RgW w' R T (.ok x (tok (by' T) j).nx) l) ∨ (en = .returned (.bool false) ∧ RgW w' R T r l ∧ ∀ x j, r = .ok x j → ¬ (tok (by' T) j).kind = k)) := by
  rcases h.cases with ⟨x, j, rfl, hg⟩ | ⟨e, a, hf, hr⟩
  · have c4 := hg.h.c4
    have c2 := hg.h.c2
    have HS := hid (tok_spl (by' T) j k h4 h19)
    by_cases hk : (tok (by' T) j).kind = k
    · have q : ((bs (tok (by' T) j).text).toList == s.toList) = true := by rw [bs_list, by_list, hs, HS.out.1 hk]; simp
      have HO := hid (ron_any R j l T w hg)
      have HK := hid hk
      generalize bs (tok (by' T) j).text = tx at *
      clear hg h hk
      go_enter Tryz.func33, Tryz.ntmps33
      go_wp2_with fail
      refine HO.out.mono ?_
      rintro e w1 ⟨rfl, hf, hr⟩
      have HF := hid hf
      have HR := hid hr
      clear hf hr
      go_wp2_with fail
      go_ret
      exact ⟨HF.out, Or.inl ⟨rfl, x, j, rfl, HK.out, HR.out.of rfl⟩⟩
    · have q : ((bs (tok (by' T) j).text).toList == s.toList) = false := by
        rw [bs_list, by_list, hs]
        simp
        exact fun e => hk (HS.out.2 e)
      have HH := hid h
      have HK := hid hk
      generalize bs (tok (by' T) j).text = tx at *
      clear hg h hk
      go_enter Tryz.func33, Tryz.ntmps33
      go_wp2_with fail
      go_ret
      exact ⟨Fr.refl _ _, Or.inr ⟨rfl, HH.out, fun x' j' e => by injection e with _ e; subst e; exact HK.out⟩⟩
  · obtain ⟨he, at', tk, dp, hR⟩ := hf
    have c4 := hR.c4
    have q : ((e : Int) != 0) = true := by simp; omega
    have HH := hid h
    have HN : Hid (∀ x j, r = .ok x j → ¬ (tok (by' T) j).kind = k) := fun x j e' => by
      rcases hr with h1 | ⟨x', j', h1, h2, _⟩
      · rw [h1] at e'; cases e'
      · rw [h1] at e'; injection e' with _ e'; subst e'; omega
    clear hR h hr
    go_enter Tryz.func33, Tryz.ntmps33
    go_wp2_with fail
    go_ret
    exact ⟨Fr.refl _ _, Or.inr ⟨rfl, HH.out, HN.out⟩⟩

set_option maxRecDepth 100000 in
set_option maxHeartbeats 1000000 in
/-- a fault here and now, if there was none -/
theorem rwant_any {α : Type} (R l k : Nat) (T s : ByteArray) (r : Res α) (w : World) (h : RgW w R T r l) (h4 : 4 ≤ k) (h19 : k ≤ 19) (hs : by' s = spll k) : Calls Tryz.prog 31 #[.pointer (some ⟨R, 0, none⟩), .string s] w fun en w' => en = .returned (.tuple #[]) ∧ Fr R w w' ∧ RgW w' R T (r.bind fun x j => (pTake (by' T) k j).bind fun _ a => .ok x a) l := by
  have hnot : ∀ (x : Bool) (w : World), (Op.unary .not (.bool x)).run Tryz.prog w = .ok (.bool (!x)) w := fun _ _ => rfl
  have HT := hid (rtake_any R l k T s r w h h4 h19 hs)
  clear h hs
  go_enter Tryz.func31, Tryz.ntmps31
  go_wp2_with fail
  refine HT.out.mono ?_
  rintro e w1 ⟨hf, ⟨rfl, x, j, hr, hk, hm⟩ | ⟨rfl, hm, hk⟩⟩
  · have HE : Hid (Fr R w w1 ∧ RgW w1 R T (r.bind fun x j => (pTake (by' T) k j).bind fun _ a => .ok x a) l) := ⟨hf, by
      rw [hr]
      show RgW w1 R T ((pTake (by' T) k j).bind fun _ a => .ok x a) l
      unfold pTake
      rw [if_pos hk]
      exact hm⟩
    clear hf hm hr hk HT
    go_wp2_with fail
    go_end0
    exact ⟨rfl, HE.out⟩
  · have HF1 := hid hf
    rcases hm.cases with ⟨x, j, hr, hg⟩ | ⟨e, a, hfa, hr⟩
    · have hk := hk x j hr
      have c1 := hg.h.c1
      have HFL := hid (rfail_any R T _ _ _ _ _ 5 ((tok (by' T) j).at' : Nat) w1 hg.h)
      have HE : Hid (∀ W, RgF W R T 5 (tok (by' T) j).at' → RgW W R T (r.bind fun x j => (pTake (by' T) k j).bind fun _ a => .ok x a) l) := fun W hW => by
        rw [hr]
        show RgW W R T ((pTake (by' T) k j).bind fun _ a => .ok x a) l
        unfold pTake
        rw [if_neg hk]
        exact hW
      clear hf hm hg hr hk HT
      go_wp2_with fail
      refine HFL.out.mono ?_
      rintro e w2 ⟨rfl, hf2, hr2⟩
      have HX : Hid (Fr R w w2 ∧ RgW w2 R T (r.bind fun x j => (pTake (by' T) k j).bind fun _ a => .ok x a) l) := ⟨HF1.out.trans hf2, HE.out w2 ⟨by decide, _, _, _, hr2⟩⟩
      clear hf2 hr2 HFL
      go_wp2_with fail
      go_end0
      exact ⟨rfl, HX.out⟩
    · obtain ⟨he, at', tk, dp, hR⟩ := hfa
      have c1 := hR.c1
      have HFL := hid (rfail_any R T _ _ _ _ _ 5 at' w1 hR)
      rw [if_neg (by omega), if_neg (by omega)] at HFL
      have HE : Hid (∀ W, RgF W R T e a → RgW W R T (r.bind fun x j => (pTake (by' T) k j).bind fun _ a => .ok x a) l) := fun W hW => by
        rcases hr with h1 | ⟨x', j', h1, h2, h3, h4⟩
        · rw [h1]; exact hW
        · rw [h1]
          show RgW W R T ((pTake (by' T) k j').bind fun _ a => .ok x' a) l
          unfold pTake
          rw [if_neg (hk x' j' h1)]
          subst h3 h4
          exact hW
      clear hf hm hR hr hk HT
      go_wp2_with fail
      refine HFL.out.mono ?_
      rintro e' w2 ⟨rfl, hf2, hr2⟩
      have HX : Hid (Fr R w w2 ∧ RgW w2 R T (r.bind fun x j => (pTake (by' T) k j).bind fun _ a => .ok x a) l) := ⟨HF1.out.trans hf2, HE.out w2 ⟨he, _, _, _, hr2⟩⟩
      clear hf2 hr2 HFL
      go_wp2_with fail
      go_end0
      exact ⟨rfl, HX.out⟩

end Go.Proofs.YthemehdcakimgaiGreatDoor
