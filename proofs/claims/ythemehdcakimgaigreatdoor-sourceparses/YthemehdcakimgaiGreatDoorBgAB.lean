/- Package source: words of the language, signs. Package source: blanks, the next token. strconv.Atoi: laid for this program. -/
import Derived.Test.YthemehdcakimgaiGreatDoorBgAA
import Derived.Deep.QuietTactic
import Derived.BigQuiet
import Derived.StillTailTactics
import Derived.Shelf.Strconv.AtoiAll
import Derived.Test.YthemehdcakimgaiGreatDoorProg
namespace Go.Proofs.YthemehdcakimgaiGreatDoor
open Go.RowKit

theorem ret_i {a b : Int} (h : a = b) : Ending.returned (.int .i64 a) = .returned (.int .i64 b) := by rw [h]
theorem langWord_any (s : ByteArray) (w : World) : Calls Tryz.prog 89 #[.string s] w fun e w' => e = .returned (.int .i64 (kwd (by' s) : Nat)) ∧ w' = w := by
  rw [← by_list]
  go_enter Tryz.func89, Tryz.ntmps89
  go_wp2_with fail
  all_goals
    go_ret
    refine ⟨ret_i ?_, rfl⟩
    simp_all [kwd]
theorem all_no {p : UInt8 → Bool} (l : List UInt8) (k : Nat) (hk : k < l.length) (h : p (l.getD k 0) = false) : l.all p = false := by
  rw [List.all_eq_false]
  refine ⟨l[k], List.getElem_mem hk, ?_⟩
  rw [List.getD_eq_getElem?_getD, List.getElem?_eq_getElem hk] at h
  simpa using h
theorem all_yes {p : UInt8 → Bool} (l : List UInt8) (h : ∀ j, j < l.length → p (l.getD j 0) = true) : l.all p = true := by
  rw [List.all_eq_true]
  intro x hx
  obtain ⟨k, hk, rfl⟩ := List.getElem_of_mem hx
  have := h k hk
  rw [List.getD_eq_getElem?_getD, List.getElem?_eq_getElem hk] at this
  exact this
set_option maxHeartbeats 1000000 in
theorem wordKind_any (s : ByteArray) (w : World) (hs : s.size ≤ 1000000) (h0 : 0 < s.size) : Calls Tryz.prog 70 #[.string s] w fun e w' => e = .returned (.int .i64 (wkd (by' s) : Nat)) ∧ w' = w := by
  have hnot : ∀ (x : Bool) (w : World), (Op.unary .not (.bool x)).run Tryz.prog w = .ok (.bool (!x)) w := fun _ _ => rfl
  have HIL := hid isletter_any
  have HID := hid isdigit_any
  have HLW := hid (langWord_any s)
  obtain ⟨c, hc⟩ : ∃ c, s[0] = c := ⟨_, rfl⟩
  have HG : Hid ((by' s).getD 0 0 = c) := (by_getD s 0 h0).trans hc
  have HL := hid (by_len s)
  have HW : Hid (∃ r, by' s = c :: r) := by
    unfold Hid
    have hg := HG.out
    have hl := by_len s
    cases hb : by' s with
    | nil => rw [hb] at hl; simp at hl; omega
    | cons x r => rw [hb] at hg; exact ⟨r, by rw [show x = c from hg]⟩
  have h00 : (0 : Int) < (s.size : Int) := by omega
  by_cases h1 : isLt c = true
  · have HK : Hid (wkd (by' s) = kwd (by' s)) := by
      obtain ⟨r, hr⟩ := HW.out
      unfold Hid
      rw [hr, wkd, if_pos h1]
    go_enter Tryz.func70, Tryz.ntmps70
    go_wp2_with fail
    refine (HIL.out c w).mono ?_
    rintro e w1 ⟨rfl, rfl⟩
    rw [h1]
    go_wp2_with fail
    refine (HLW.out w1).mono ?_
    rintro e w2 ⟨rfl, rfl⟩
    go_wp2_with fail
    go_ret
    exact ⟨ret_i (by rw [HK.out]), rfl⟩
  · have h1' : isLt c = false := by simpa using h1
    by_cases h2 : ¬ by' s = [48] ∧ c = 48
    · have HK : Hid (wkd (by' s) = 0) := by
        obtain ⟨r, hr⟩ := HW.out
        unfold Hid
        have h5 := h2.1
        rw [hr, wkd, if_neg (by rw [h1']; simp), if_pos ⟨h2.2, fun e => h5 (by rw [hr, e, h2.2])⟩]
      have t1 : (s.toList == [48]) = false := by rw [by_list]; simpa using h2.1
      have t2 : ((c.toNat : Int) == 48) = true := by rw [h2.2]; rfl
      clear h2 h1
      go_enter Tryz.func70, Tryz.ntmps70
      go_wp2_with fail
      refine (HIL.out c w).mono ?_
      rintro e w1 ⟨rfl, rfl⟩
      rw [h1']
      go_wp2_with fail
      go_ret
      exact ⟨ret_i (by rw [HK.out]; rfl), rfl⟩
    · have HK : Hid (wkd (by' s) = if (by' s).all isDg then 3 else 0) := by
        obtain ⟨r, hr⟩ := HW.out
        unfold Hid
        rw [hr] at h2 ⊢
        rw [wkd, if_neg (by rw [h1']; simp), if_neg (fun h5 => h2 ⟨fun e => h5.2 (by injection e), h5.1⟩)]
      have HT : Hid ((s.toList == [48]) = true ∨ ((s.toList == [48]) = false ∧ ((c.toNat : Int) == 48) = false)) := by
        unfold Hid
        rw [by_list]
        by_cases h5 : by' s = [48]
        · exact .inl (by simpa using h5)
        · refine .inr ⟨by simpa using h5, ?_⟩
          have h6 : ¬ c = 48 := fun e => h2 ⟨h5, e⟩
          have h7 : ¬ (c.toNat : Int) = 48 := fun e => h6 (by apply UInt8.toNat_inj.1; show c.toNat = 48; omega)
          simpa using h7
      clear h2 h1
      rcases HT.out with t1 | ⟨t1, t2⟩
      all_goals
        clear HT
        go_enter Tryz.func70, Tryz.ntmps70
        go_wp2_with fail
        refine (HIL.out c w).mono ?_
        rintro e w1 ⟨rfl, rfl⟩
        rw [h1']
        go_wp2_with fail
        go_loop [18] (fun i => ∃ k : Nat, k ≤ s.size ∧ i = .int .i64 k ∧ Hid (∀ j, j < k → isDg ((by' s).getD j 0) = true)) (fun i => s.size - (intOf i).toNat)
        case atStart => exact ⟨0, Nat.zero_le _, rfl, fun j hj => by omega⟩
        case round =>
          obtain ⟨k, hk, rfl, HA⟩ := hrel
          by_cases hlt : k < s.size
          · have hlt2 : (k : Int) < (s.size : Int) := by omega
            have hwr : IntKind.i64.wrap ((k : Int) + 1) = (k : Int) + 1 := by rw [IntKind.wrap_i64]; omega
            obtain ⟨d, hd⟩ : ∃ d, s[k] = d := ⟨_, rfl⟩
            have HGD : Hid ((by' s).getD k 0 = d) := (by_getD s k hlt).trans hd
            by_cases h2 : isDg d = true
            · go_wp2_with fail
              refine (HID.out d w1).mono ?_
              rintro e w2 ⟨rfl, rfl⟩
              rw [h2]
              go_wp2_with fail
              go_round
              case rel => exact ⟨k + 1, by omega, by go_num, fun j hj => by
                  rcases Nat.lt_or_ge j k with g | g
                  · exact HA.out j g
                  · obtain rfl : j = k := by omega
                    rw [HGD.out]; exact h2⟩
              case measure => simp [intOf]; omega
            · have h2' : isDg d = false := by simpa using h2
              clear h2
              go_wp2_with fail
              refine (HID.out d w1).mono ?_
              rintro e w2 ⟨rfl, rfl⟩
              rw [h2']
              go_wp2_with fail
              go_ret
              exact ⟨ret_i (by rw [HK.out, all_no (by' s) k (by rw [HL.out]; exact hlt) (by rw [HGD.out]; exact h2')]; rfl), rfl⟩
          · obtain rfl : k = s.size := by omega
            have hlt2 : ¬ (s.size : Int) < (s.size : Int) := by omega
            go_wp2_with fail
            go_ret
            exact ⟨ret_i (by rw [HK.out, all_yes (by' s) (fun j hj => HA.out j (by rw [HL.out] at hj; exact hj))]; rfl), rfl⟩

theorem sgn_ne (c : UInt8) (r : List UInt8) (h1 : ¬ (c = 61 ∧ r.head? = some 61)) : sgn (c :: r) = (if c = 40 then 10 else if c = 41 then 11 else if c = 44 then 12 else if c = 59 then 13 else if c = 61 then 14 else if c = 43 then 16 else if c = 45 then 17 else if c = 42 then 18 else if c = 47 then 19 else 0, 1) := by
  by_cases h2 : c = 61
  · subst h2
    cases r with
    | nil => rfl
    | cons d q =>
      have h3 : ¬ d = 61 := fun e => h1 ⟨rfl, by rw [e]; rfl⟩
      unfold sgn
      simp only [if_true]
      split
      · rename_i h4
        injection h4 with h4
        exact absurd h4 h3
      · rfl
  · unfold sgn
    simp only [if_neg h2]
set_option maxHeartbeats 1000000 in
theorem sign_any (s : ByteArray) (w : World) (h0 : 0 < s.size) : Calls Tryz.prog 71 #[.string s] w fun e w' => e = .returned (.tuple #[.int .i64 ((sgn (by' s)).1 : Nat), .int .i64 ((sgn (by' s)).2 : Nat)]) ∧ w' = w := by
  have HP := hid (Tryz.strings_HasPrefix s ⟨#[61, 61]⟩ w)
  obtain ⟨c, hc⟩ : ∃ c, s[0] = c := ⟨_, rfl⟩
  have hg : (by' s).getD 0 0 = c := (by_getD s 0 h0).trans hc
  have h00 : (0 : Int) < (s.size : Int) := by omega
  have hl := by_len s
  obtain ⟨r, hr⟩ : ∃ r, by' s = c :: r := by
    cases hb : by' s with
    | nil => rw [hb] at hl; simp at hl; omega
    | cons x r => rw [hb] at hg; exact ⟨r, by rw [show x = c from hg]⟩
  have hp : Lib.hasPrefix s.data.toList (⟨#[61, 61]⟩ : ByteArray).data.toList = decide (c = 61 ∧ r.head? = some 61) := by
    show Lib.hasPrefix (by' s) [61, 61] = _
    rw [hr, Bool.eq_iff_iff]
    cases r with
    | nil => simp [Lib.hasPrefix, List.isPrefixOf]
    | cons d q => simp [Lib.hasPrefix, List.isPrefixOf]; constructor <;> (rintro ⟨h5, h6⟩; exact ⟨h5.symm, h6.symm⟩)
  rw [hp] at HP
  rw [hr]
  clear hg hl hp hr
  by_cases h1 : c = 61 ∧ r.head? = some 61
  · rw [decide_eq_true h1] at HP
    obtain ⟨rfl, h2⟩ := h1
    obtain ⟨q, rfl⟩ : ∃ q, r = 61 :: q := by
      cases r with
      | nil => simp at h2
      | cons d q => exact ⟨q, by rw [show d = 61 from by simpa using h2]⟩
    go_enter Tryz.func71, Tryz.ntmps71
    go_wp2_with fail
    refine HP.out.mono ?_
    rintro e w1 ⟨rfl, rfl⟩
    go_wp2_with fail
    go_ret2
    exact ⟨rfl, rfl⟩
  · rw [decide_eq_false h1] at HP
    rw [sgn_ne c r h1]
    clear h1

    have hcn : ∀ k : UInt8, ((c.toNat : Int) == (k.toNat : Int)) = decide (c = k) := fun k => by
      rw [Bool.eq_iff_iff]
      simp
      exact ⟨fun h => UInt8.toNat_inj.1 (by omega), fun h => by rw [h]⟩
    have q1 : ((c.toNat : Int) == 40) = decide (c = 40) := hcn 40
    have q2 : ((c.toNat : Int) == 41) = decide (c = 41) := hcn 41
    have q3 : ((c.toNat : Int) == 44) = decide (c = 44) := hcn 44
    have q4 : ((c.toNat : Int) == 59) = decide (c = 59) := hcn 59
    have q5 : ((c.toNat : Int) == 61) = decide (c = 61) := hcn 61
    have q6 : ((c.toNat : Int) == 43) = decide (c = 43) := hcn 43
    have q7 : ((c.toNat : Int) == 45) = decide (c = 45) := hcn 45
    have q8 : ((c.toNat : Int) == 42) = decide (c = 42) := hcn 42
    have q9 : ((c.toNat : Int) == 47) = decide (c = 47) := hcn 47
    clear hcn
    go_enter Tryz.func71, Tryz.ntmps71
    go_wp2_with fail
    refine HP.out.mono ?_
    rintro e w1 ⟨rfl, rfl⟩
    go_wp2_with fail
    all_goals go_ret2
    all_goals simp_all

end Go.Proofs.YthemehdcakimgaiGreatDoor

namespace Go.Proofs.YthemehdcakimgaiGreatDoor
open Go.RowKit

theorem drop_cons (L : List UInt8) (k : Nat) (h : k < L.length) : L.drop k = L.getD k 0 :: L.drop (k + 1) := by
  rw [List.drop_eq_getElem_cons h, List.getD_eq_getElem?_getD, List.getElem?_eq_getElem h]
  rfl
theorem blank_sp {c : UInt8} (r : List UInt8) (h : c = 32 ∨ c = 9 ∨ c = 10) : blank (c :: r) = blank r := by
  rw [blank, if_pos (by rcases h with rfl | rfl | rfl <;> rfl)]
theorem blank_rem (r : List UInt8) : blank (35 :: r) = blank (r.dropWhile (· != 10)) := by
  rw [blank, if_neg (by decide), if_pos (by decide)]
theorem blank_no {c : UInt8} (r : List UInt8) (h1 : ¬ c = 32) (h2 : ¬ c = 9) (h3 : ¬ c = 10) (h4 : ¬ c = 35) : blank (c :: r) = c :: r := by
  rw [blank, if_neg (by simp [h1, h2, h3]), if_neg (by simpa using h4)]
theorem drop_tw (p : UInt8 → Bool) : ∀ r : List UInt8, r.drop (r.takeWhile p).length = r.dropWhile p
  | [] => rfl
  | c :: r => by
    cases h : p c with
    | true => simp [h, drop_tw p r]
    | false => simp [h]
theorem u8_eq (c k : UInt8) : ((c.toNat : Int) == (k.toNat : Int)) = decide (c = k) := by
  rw [Bool.eq_iff_iff]
  simp
  exact ⟨fun h => UInt8.toNat_inj.1 (by omega), fun h => by rw [h]⟩
/-- where the first token from a place on begins -/
def pst (L : List UInt8) (a : Nat) : Nat := L.length - (blank (L.drop a)).length

set_option maxHeartbeats 1000000 in
theorem pastBlanks_any (s : ByteArray) (a : Nat) (w : World) (hs : s.size ≤ 1000000) (ha : a ≤ s.size) : Calls Tryz.prog 68 #[.string s, .int .i64 (a : Int)] w fun e w' => e = .returned (.int .i64 (pst (by' s) a : Nat)) ∧ w' = w := by
  have HLL := hid lineLen_any
  obtain ⟨L, hL⟩ : ∃ L, by' s = L := ⟨_, rfl⟩
  have hl := by_len s
  rw [hL] at hl ⊢
  have HL := hid hL
  have HLN := hid hl
  clear hL hl
  go_enter Tryz.func68, Tryz.ntmps68
  go_wp2_with fail
  go_loop [1] (fun i => ∃ k : Nat, k ≤ s.size ∧ i = .int .i64 k ∧ Hid (blank (L.drop k) = blank (L.drop a))) (fun i => s.size - (intOf i).toNat)
  case atStart => exact ⟨a, ha, rfl, rfl⟩
  case round =>
    obtain ⟨k, hk, rfl, HA⟩ := hrel
    by_cases hlt : k < s.size
    · have hlt2 : (k : Int) < (s.size : Int) := by omega
      have hwr : IntKind.i64.wrap ((k : Int) + 1) = (k : Int) + 1 := by rw [IntKind.wrap_i64]; omega
      obtain ⟨c, hc⟩ : ∃ c, s[k] = c := ⟨_, rfl⟩
      have HG : Hid (L.drop k = c :: L.drop (k + 1)) := by
        unfold Hid
        rw [drop_cons L k (by rw [HLN.out]; exact hlt), ← HL.out, by_getD s k hlt, hc]
      have q1 : ((c.toNat : Int) == 32) = decide (c = 32) := u8_eq c 32
      have q2 : ((c.toNat : Int) == 9) = decide (c = 9) := u8_eq c 9
      have q3 : ((c.toNat : Int) == 10) = decide (c = 10) := u8_eq c 10
      have q4 : ((c.toNat : Int) == 35) = decide (c = 35) := u8_eq c 35
      by_cases hb : c = 32 ∨ c = 9 ∨ c = 10
      · have HN : Hid (blank (L.drop (k + 1)) = blank (L.drop a)) := by
          unfold Hid
          rw [← HA.out, HG.out, blank_sp _ hb]
        by_cases h1 : c = 32
        · rw [decide_eq_true h1] at q1
          clear hb h1 q2 q3 q4
          go_wp2_with fail
          go_round
          case rel => exact ⟨k + 1, by omega, by go_num, HN⟩
          case measure => simp [intOf]; omega
        · by_cases h2 : c = 9
          · rw [decide_eq_false h1] at q1
            rw [decide_eq_true h2] at q2
            clear hb h1 h2 q3 q4
            go_wp2_with fail
            go_round
            case rel => exact ⟨k + 1, by omega, by go_num, HN⟩
            case measure => simp [intOf]; omega
          · have h3 : c = 10 := by rcases hb with h | h | h; exact absurd h h1; exact absurd h h2; exact h
            rw [decide_eq_false h1] at q1
            rw [decide_eq_false h2] at q2
            rw [decide_eq_true h3] at q3
            clear hb h1 h2 h3 q4
            go_wp2_with fail
            go_round
            case rel => exact ⟨k + 1, by omega, by go_num, HN⟩
            case measure => simp [intOf]; omega
      · have h1 : ¬ c = 32 := fun e => hb (.inl e)
        have h2 : ¬ c = 9 := fun e => hb (.inr (.inl e))
        have h3 : ¬ c = 10 := fun e => hb (.inr (.inr e))
        rw [decide_eq_false h1] at q1
        rw [decide_eq_false h2] at q2
        rw [decide_eq_false h3] at q3
        by_cases h4 : c = 35
        · rw [decide_eq_true h4] at q4
          have HE : Hid (by' (s.extract k s.size) = L.drop k) := by
            unfold Hid
            rw [by_ext, HL.out, List.take_of_length_le (by rw [List.length_drop, HLN.out]; omega)]
          obtain ⟨m, hm⟩ : ∃ m, m = ((by' (s.extract k s.size)).takeWhile (· != 10)).length := ⟨_, rfl⟩
          have HM := hid hm
          have HCL := hid (HLL.out (s.extract k s.size) w)
          rw [← hm] at HCL
          have hmf : 0 < m ∧ k + m ≤ s.size ∧ blank (L.drop (k + m)) = blank (L.drop a) := by
            rw [hm, HE.out]
            have e1 : (List.takeWhile (· != 10) (L.drop k)).length = 1 + ((L.drop (k + 1)).takeWhile (· != 10)).length := by
              rw [HG.out, h4]
              simp
              omega
            have e2 := (List.takeWhile_sublist (l := L.drop (k + 1)) (· != (10 : UInt8))).length_le
            rw [List.length_drop, HLN.out] at e2
            refine ⟨by omega, by omega, ?_⟩
            have e3 : L.drop (k + (1 + ((L.drop (k + 1)).takeWhile (· != 10)).length)) = (L.drop (k + 1)).drop ((L.drop (k + 1)).takeWhile (· != 10)).length := by
              rw [List.drop_drop]
              congr 1
              omega
            rw [e1, e3, drop_tw, ← HA.out, HG.out, h4, blank_rem]
          clear hb h1 h2 h3 h4 hm
          obtain ⟨hm0, hm1, hm2⟩ := hmf
          have HN := hid hm2
          clear hm2
          have hwk : IntKind.i64.wrap ((k : Int) + (m : Int)) = (k : Int) + (m : Int) := by rw [IntKind.wrap_i64]; omega
          go_wp2_with fail
          refine HCL.out.mono ?_
          rintro e w1 ⟨rfl, rfl⟩
          go_wp2_with fail
          go_round
          case rel => exact ⟨k + m, by omega, by go_num, HN⟩
          case measure => simp [intOf]; omega
        · rw [decide_eq_false h4] at q4
          have HN : Hid (pst L a = k) := by
            unfold Hid pst
            rw [← HA.out, HG.out, blank_no _ h1 h2 h3 h4, ← HG.out, List.length_drop, HLN.out]
            omega
          clear hb h1 h2 h3 h4
          go_wp2_with fail
          go_ret
          exact ⟨ret_i (by rw [HN.out]), rfl⟩
    · obtain rfl : k = s.size := by omega
      have hlt2 : ¬ (s.size : Int) < (s.size : Int) := by omega
      have HN : Hid (pst L a = s.size) := by
        unfold Hid pst
        rw [← HA.out, List.drop_of_length_le (by rw [HLN.out]; exact Nat.le_refl _), blank, HLN.out]
        simp
      go_wp2_with fail
      go_ret
      exact ⟨ret_i (by rw [HN.out]), rfl⟩

theorem pst_le (L : List UInt8) (a : Nat) : pst L a ≤ L.length := Nat.sub_le _ _
theorem blank_suf : ∀ (n : Nat) (l : List UInt8), l.length ≤ n → blank l <:+ l
  | _, [], _ => by rw [blank]; exact List.suffix_refl _
  | 0, c :: r, h => by simp at h
  | n + 1, c :: r, h => by
    rw [blank]
    simp at h
    have h2 := (List.dropWhile_sublist (l := r) (· != 10)).length_le
    split
    · exact (blank_suf n r h).trans (List.suffix_cons _ _)
    · split
      · exact ((blank_suf n (r.dropWhile (· != 10)) (by omega)).trans (List.dropWhile_suffix _)).trans (List.suffix_cons _ _)
      · exact List.suffix_refl _
theorem drop_pst (L : List UInt8) (a : Nat) : L.drop (pst L a) = blank (L.drop a) := by
  have h1 := blank_suf _ (L.drop a) (Nat.le_refl _)
  have h2 := h1.trans (List.drop_suffix a L)
  obtain ⟨t, ht⟩ := h2
  unfold pst
  have hl : L.length = t.length + (blank (L.drop a)).length := by
    have := congrArg List.length ht
    rw [List.length_append] at this
    omega
  rw [hl, Nat.add_sub_cancel]
  generalize blank (L.drop a) = b at ht
  rw [← ht, List.drop_left]
/-- a token in memory -/
def tokv (t : Tok) : Value := .agg #[.int .i64 (t.kind : Int), .int .i64 (t.at' : Int), .string (bs t.text)]

set_option maxRecDepth 100000 in
set_option maxHeartbeats 1000000 in
theorem tokenAt_any (s : ByteArray) (a : Nat) (w : World) (hs : s.size ≤ 1000000) (ha : a ≤ s.size) : Calls Tryz.prog 46 #[.string s, .int .i64 (a : Int)] w fun e w' => e = .returned (tokv (tok (by' s) a)) ∧ Below w.heap.size w w' := by
  have HPB := hid (fun W => pastBlanks_any s a W hs ha)
  obtain ⟨L, hL⟩ : ∃ L, by' s = L := ⟨_, rfl⟩
  have hl := by_len s
  rw [hL] at hl HPB ⊢
  have HL := hid hL
  have HLN := hid hl
  obtain ⟨k, hk⟩ : ∃ k, pst L a = k := ⟨_, rfl⟩
  have hkl : k ≤ s.size := by rw [← hk, ← hl]; exact pst_le L a
  obtain ⟨r, hr⟩ : ∃ r, r = s.extract k s.size := ⟨_, rfl⟩
  have hbr : by' r = blank (L.drop a) := by rw [hr, by_ext, hL, List.take_of_length_le (by rw [List.length_drop, hl]; omega), ← hk, drop_pst]
  have hrl : r.size = s.size - k := by rw [← by_len r, hbr, ← drop_pst, hk, List.length_drop, hl]
  rw [hk] at HPB
  have htk : tok L a = tokR L.length (by' r) := by rw [hbr]; rfl
  have HTK := hid htk
  have HHK : Hid (L.length - (by' r).length = k) := by unfold Hid; rw [by_len, hrl, hl]; omega
  have hkk : (k : Int) ≤ (s.size : Int) := by omega
  replace hr := hr.symm
  obtain ⟨V, hV⟩ : ∃ V, V = w.alloc (.cells #[.int .i64 0, .int .i64 0, .string ⟨#[]⟩] 101) := ⟨_, rfl⟩
  clear hL hl ha hk hbr htk
  by_cases hz : by' r = []
  · have HTT : Hid (tok L a = ⟨1, k, []⟩) := by
      have h9 := HHK.out
      unfold Hid
      rw [HTK.out, tokR, if_pos hz]
      rw [hz] at h9
      simp at h9
      rw [h9]
    have t1 : (r.toList == []) = true := by rw [by_list, hz]; rfl
    rw [HTT.out]
    go_enter Tryz.func46, Tryz.ntmps46
    go_wp2_with fail
    refine (HPB.out _).mono ?_
    rintro e w1 ⟨rfl, rfl⟩
    go_wp2_with fail
    refine bodyPost_ret (results_cell_row rfl _ _ w.heap.size 101 #[.int .i64 1, .int .i64 (k : Int), .string ⟨#[]⟩] (0, 0) _ rfl (heap_alloc_new w _) Tryz.underlying101 rfl (by kernel_rfl)) rfl ?_
    exact ⟨rfl, (Below.refl _ _).alloc (Nat.le_refl _) _⟩
  · have t1 : (r.toList == []) = false := by rw [by_list]; simpa using hz
    have hr0 : 0 < r.size := by
      rw [← by_len]
      exact List.length_pos_iff.2 hz
    obtain ⟨n, hn⟩ : ∃ n, ((by' r).takeWhile inWd).length = n := ⟨_, rfl⟩
    have HWL := hid (fun W => wordLen_any r W (by omega))
    rw [hn] at HWL
    have hnl : n ≤ r.size := by
      rw [← hn, ← by_len]
      exact (List.takeWhile_sublist _).length_le
    have hkn : (n : Int) ≤ (r.size : Int) := by omega
    have htx : by' (r.extract 0 n) = (by' r).takeWhile inWd := by
      rw [by_ext, ← hn]
      simp
      exact (List.prefix_iff_eq_take.1 (List.takeWhile_prefix inWd)).symm
    by_cases h0 : 0 < n
    · have HTT : Hid (tok L a = ⟨wkd (by' (r.extract 0 n)), k, by' (r.extract 0 n)⟩) := by
        unfold Hid
        rw [HTK.out, tokR, if_neg hz, if_pos (by intro e; rw [e] at hn; simp at hn; omega), HHK.out, htx]
      have HWK := hid (fun W => wordKind_any (r.extract 0 n) W (by rw [← by_len, htx, hn]; omega) (by rw [← by_len, htx, hn]; exact h0))
      rw [HTT.out]
      have h0i : (0 : Int) < (n : Int) := by omega
      obtain ⟨x, hx⟩ : ∃ x, r.extract 0 n = x := ⟨_, rfl⟩
      rw [hx] at HWK ⊢
      have hmx : Tryz.prog.follows .mixedOrders = true := by kernel_rfl
      clear hn htx hz hr0 h0 hrl
      obtain ⟨wk, hwk⟩ : ∃ wk, wkd (by' x) = wk := ⟨_, rfl⟩
      rw [hwk] at HWK ⊢
      clear hwk
      have hsx : bs (by' x) = x := bs_by x
      go_enter Tryz.func46, Tryz.ntmps46
      go_wp2_with fail
      refine (HPB.out _).mono ?_
      rintro e w1 ⟨rfl, rfl⟩
      go_wp2_with fail
      refine (HWL.out _).mono ?_
      rintro e w1 ⟨rfl, rfl⟩
      go_wp2_with fail
      rw [← hV]
      have hVh : V.heap[w.heap.size]? = some (.cells #[.int .i64 0, .int .i64 0, .string ⟨#[]⟩] 101 (0, 0)) := by rw [hV]; exact heap_alloc_new w _
      have HVB : Hid (Below w.heap.size w V) := by unfold Hid; rw [hV]; exact (Below.refl _ _).alloc (Nat.le_refl _) _
      have HVH := hid hVh
      have z0 : ∀ d, ({ V with drawn := d } : World).cell? ⟨w.heap.size, 0, none⟩ = some (.int .i64 0) := fun d => by simp [World.cell?, hVh]
      have z1 : ∀ d, ({ V with drawn := d } : World).cell? ⟨w.heap.size, 1, none⟩ = some (.int .i64 0) := fun d => by simp [World.cell?, hVh]
      have z2 : ∀ d, ({ V with drawn := d } : World).cell? ⟨w.heap.size, 2, none⟩ = some (.string ⟨#[]⟩) := fun d => by simp [World.cell?, hVh]
      have z3 : ∀ d i, ({ V with drawn := d } : World).frozen? ⟨w.heap.size, i, none⟩ = false := fun d i => frozen_of_row _ _ i _ _ (show ({ V with drawn := d } : World).heap[w.heap.size]? = _ from hVh)
      clear hV hVh
      go_still_tail 9, hmx
      still_call (HWK.out _)
      (repeat still_step)
      refine wpStill_nil ?_
      go_wp2_with fail
      have hh := heap_setCell_same _ w.heap.size 2 _ _ (.string x) (heap_setCell_same _ w.heap.size 1 _ _ (.int .i64 (k : Int)) (heap_setCell_same V w.heap.size 0 _ _ (.int .i64 (wk : Int)) HVH.out))
      refine bodyPost_ret (results_cell_row rfl _ _ w.heap.size 101 #[.int .i64 (wk : Int), .int .i64 (k : Int), .string x] (0, 0) _ rfl (by exact hh) Tryz.underlying101 rfl (by kernel_rfl)) rfl ?_
      exact ⟨by unfold tokv; rw [hsx], (((HVB.out.setCell (p := ⟨w.heap.size, 0, none⟩) (Nat.le_refl _) _).setCell (p := ⟨w.heap.size, 1, none⟩) (Nat.le_refl _) _).setCell (p := ⟨w.heap.size, 2, none⟩) (Nat.le_refl _) _).drew⟩
    · obtain rfl : n = 0 := by omega
      have HS := hid (fun W => sign_any r W hr0)
      have hs2 := sgn_two (by' r)
      have hs3 := hs2.2.2 hz
      rw [by_len] at hs3
      obtain ⟨kd, hkd⟩ : ∃ kd, (sgn (by' r)).1 = kd := ⟨_, rfl⟩
      obtain ⟨m, hm⟩ : ∃ m, (sgn (by' r)).2 = m := ⟨_, rfl⟩
      have HTT : Hid (tok L a = ⟨kd, k, by' (r.extract 0 m)⟩) := by
        unfold Hid
        rw [HTK.out, tokR, if_neg hz, if_neg (by intro h; exact h (List.length_eq_zero_iff.1 hn)), HHK.out, by_ext, hkd, hm]
        simp
      rw [hm] at hs3
      rw [hkd, hm] at HS
      rw [HTT.out]
      have hmi : (m : Int) ≤ (r.size : Int) := by omega
      obtain ⟨x, hx⟩ : ∃ x, r.extract 0 m = x := ⟨_, rfl⟩
      rw [hx]
      have hsx : bs (by' x) = x := bs_by x
      have hml : m ≤ r.size := hs3
      clear hn htx hz hr0 h0 hs2 hs3 hkd hm hrl
      go_enter Tryz.func46, Tryz.ntmps46
      go_wp2_with fail
      refine (HPB.out _).mono ?_
      rintro e w1 ⟨rfl, rfl⟩
      go_wp2_with fail
      refine (HWL.out _).mono ?_
      rintro e w1 ⟨rfl, rfl⟩
      go_wp2_with fail
      refine (HS.out _).mono ?_
      rintro e w1 ⟨rfl, rfl⟩
      go_wp2_with fail
      refine bodyPost_ret (results_cell_row rfl _ _ w.heap.size 101 #[.int .i64 (kd : Int), .int .i64 (k : Int), .string x] (0, 0) _ rfl (heap_alloc_new w _) Tryz.underlying101 rfl (by kernel_rfl)) rfl ?_
      exact ⟨by unfold tokv; rw [hsx], (Below.refl _ _).alloc (Nat.le_refl _) _⟩

end Go.Proofs.YthemehdcakimgaiGreatDoor

namespace Go.Proofs
open Go.Shelf

def Tryz.laysC172_ren : Go.Shelf.Ren := ⟨fun | 172 => 127 | 244 => 128 | 245 => 129 | 247 => 130 | 279 => 131 | 280 => 132 | 281 => 133 | 282 => 134 | 287 => 135 | 316 => 104 | 171 => 64 | 205 => 136 | 321 => 137 | 322 => 138 | 243 => 84 | 246 => 101 | 283 => 108 | 284 => 109 | 285 => 110 | 286 => 111 | 129 => 115 | 317 => 114 | 318 => 116 | 319 => 117 | 320 => 118 | 337 => 124 | 338 => 125 | n => n, fun | 9 => 9 | 3 => 3 | 75 => 24 | 76 => 69 | 4 => 4 | 5 => 5 | 167 => 191 | 37 => 66 | 0 => 0 | 85 => 192 | 2 => 2 | 168 => 194 | 53 => 173 | 175 => 197 | 46 => 184 | 210 => 200 | 127 => 90 | 145 => 205 | 143 => 203 | 21 => 21 | 171 => 172 | 173 => 176 | 212 => 180 | 51 => 181 | 20 => 20 | 213 => 182 | 232 => 188 | 233 => 189 | 80 => 31 | n => n, fun | 15 => 5 | 16 => 6 | 17 => 2 | 18 => 3 | 19 => 4 | n => n⟩
theorem Tryz.laysC172 : Go.Proofs.LaysC.n172 Tryz.prog Tryz.laysC172_ren := {
  mixed := by kernel_rfl
  f129 := Tryz.func115.trans (congrArg some (by kernel_rfl))
  f171 := Tryz.func64.trans (congrArg some (by kernel_rfl))
  f172 := Tryz.func127.trans (congrArg some (by kernel_rfl))
  f205 := Tryz.func136.trans (congrArg some (by kernel_rfl))
  f243 := Tryz.func84.trans (congrArg some (by kernel_rfl))
  f244 := Tryz.func128.trans (congrArg some (by kernel_rfl))
  f245 := Tryz.func129.trans (congrArg some (by kernel_rfl))
  f246 := Tryz.func101.trans (congrArg some (by kernel_rfl))
  f247 := Tryz.func130.trans (congrArg some (by kernel_rfl))
  f279 := Tryz.func131.trans (congrArg some (by kernel_rfl))
  f280 := Tryz.func132.trans (congrArg some (by kernel_rfl))
  f281 := Tryz.func133.trans (congrArg some (by kernel_rfl))
  f282 := Tryz.func134.trans (congrArg some (by kernel_rfl))
  f283 := Tryz.func108.trans (congrArg some (by kernel_rfl))
  f284 := Tryz.func109.trans (congrArg some (by kernel_rfl))
  f285 := Tryz.func110.trans (congrArg some (by kernel_rfl))
  f286 := Tryz.func111.trans (congrArg some (by kernel_rfl))
  f287 := Tryz.func135.trans (congrArg some (by kernel_rfl))
  f316 := Tryz.func104.trans (congrArg some (by kernel_rfl))
  f317 := Tryz.func114.trans (congrArg some (by kernel_rfl))
  f318 := Tryz.func116.trans (congrArg some (by kernel_rfl))
  f319 := Tryz.func117.trans (congrArg some (by kernel_rfl))
  f320 := Tryz.func118.trans (congrArg some (by kernel_rfl))
  f321 := Tryz.func137.trans (congrArg some (by kernel_rfl))
  f322 := Tryz.func138.trans (congrArg some (by kernel_rfl))
  f337 := Tryz.func124.trans (congrArg some (by kernel_rfl))
  f338 := Tryz.func125.trans (congrArg some (by kernel_rfl))
  t0 := Tryz.underlying0
  a0 := Tryz.isAgg0
  z0 := Tryz.sizeOf0
  v0 := Tryz.zeroValue0
  t2 := Tryz.underlying2
  a2 := Tryz.isAgg2
  z2 := Tryz.sizeOf2
  v2 := Tryz.zeroValue2
  t3 := Tryz.underlying3
  a3 := Tryz.isAgg3
  z3 := Tryz.sizeOf3
  v3 := Tryz.zeroValue3
  t4 := Tryz.underlying4
  a4 := Tryz.isAgg4
  z4 := Tryz.sizeOf4
  v4 := Tryz.zeroValue4
  t5 := Tryz.underlying5
  a5 := Tryz.isAgg5
  z5 := Tryz.sizeOf5
  v5 := Tryz.zeroValue5
  t9 := Tryz.underlying9
  a9 := Tryz.isAgg9
  z9 := Tryz.sizeOf9
  v9 := Tryz.zeroValue9
  t20 := Tryz.underlying20
  a20 := Tryz.isAgg20
  z20 := Tryz.sizeOf20
  v20 := Tryz.zeroValue20
  t21 := Tryz.underlying21
  a21 := Tryz.isAgg21
  z21 := Tryz.sizeOf21
  v21 := Tryz.zeroValue21
  t37 := Tryz.underlying66
  a37 := Tryz.isAgg66
  z37 := Tryz.sizeOf66
  v37 := Tryz.zeroValue66
  t46 := Tryz.underlying184
  a46 := Tryz.isAgg184
  z46 := Tryz.sizeOf184
  v46 := Tryz.zeroValue184
  t51 := Tryz.underlying181
  a51 := Tryz.isAgg181
  z51 := Tryz.sizeOf181
  v51 := Tryz.zeroValue181
  t53 := Tryz.underlying173
  a53 := Tryz.isAgg173
  z53 := Tryz.sizeOf173
  v53 := Tryz.zeroValue173
  t75 := Tryz.underlying24
  a75 := Tryz.isAgg24
  z75 := Tryz.sizeOf24
  v75 := Tryz.zeroValue24
  t76 := Tryz.underlying69
  a76 := Tryz.isAgg69
  z76 := Tryz.sizeOf69
  v76 := Tryz.zeroValue69
  t85 := Tryz.underlying192
  a85 := Tryz.isAgg192
  z85 := Tryz.sizeOf192
  v85 := Tryz.zeroValue192
  t127 := Tryz.underlying90
  a127 := Tryz.isAgg90
  z127 := Tryz.sizeOf90
  v127 := Tryz.zeroValue90
  t143 := Tryz.underlying203
  a143 := Tryz.isAgg203
  z143 := Tryz.sizeOf203
  v143 := Tryz.zeroValue203
  t145 := Tryz.underlying205
  a145 := Tryz.isAgg205
  z145 := Tryz.sizeOf205
  v145 := Tryz.zeroValue205
  t167 := Tryz.underlying191
  a167 := Tryz.isAgg191
  z167 := Tryz.sizeOf191
  v167 := Tryz.zeroValue191
  t168 := Tryz.underlying194
  a168 := Tryz.isAgg194
  z168 := Tryz.sizeOf194
  v168 := Tryz.zeroValue194
  t171 := Tryz.underlying172
  a171 := Tryz.isAgg172
  z171 := Tryz.sizeOf172
  v171 := Tryz.zeroValue172
  t173 := Tryz.underlying176
  a173 := Tryz.isAgg176
  z173 := Tryz.sizeOf176
  v173 := Tryz.zeroValue176
  t175 := Tryz.underlying197
  a175 := Tryz.isAgg197
  z175 := Tryz.sizeOf197
  v175 := Tryz.zeroValue197
  t210 := Tryz.underlying200
  a210 := Tryz.isAgg200
  z210 := Tryz.sizeOf200
  v210 := Tryz.zeroValue200
  t212 := Tryz.underlying180
  a212 := Tryz.isAgg180
  z212 := Tryz.sizeOf180
  v212 := Tryz.zeroValue180
  t213 := Tryz.underlying182
  a213 := Tryz.isAgg182
  z213 := Tryz.sizeOf182
  t232 := Tryz.underlying188
  a232 := Tryz.isAgg188
  z232 := Tryz.sizeOf188
  v232 := Tryz.zeroValue188
  t233 := Tryz.underlying189
  a233 := Tryz.isAgg189
  z233 := Tryz.sizeOf189
  v233 := Tryz.zeroValue189
  g15 := by kernel_rfl
  g16 := by kernel_rfl
  g17 := by kernel_rfl
  g18 := by kernel_rfl
  g19 := by kernel_rfl
  t80 := Tryz.underlying31
  a80 := Tryz.isAgg31
  z80 := Tryz.sizeOf31
  v80 := Tryz.zeroValue31
  i0 := by kernel_rfl
  i2 := by kernel_rfl
  i3 := by kernel_rfl
  i4 := by kernel_rfl
  i5 := by kernel_rfl
  i9 := by kernel_rfl
  i20 := by kernel_rfl
  i21 := by kernel_rfl
  i37 := by kernel_rfl
  i46 := by kernel_rfl
  i51 := by kernel_rfl
  i53 := by kernel_rfl
  i75 := by kernel_rfl
  i76 := by kernel_rfl
  i80 := by kernel_rfl
  i85 := by kernel_rfl
  i127 := by kernel_rfl
  i143 := by kernel_rfl
  i145 := by kernel_rfl
  i167 := by kernel_rfl
  i168 := by kernel_rfl
  i171 := by kernel_rfl
  i173 := by kernel_rfl
  i175 := by kernel_rfl
  i210 := by kernel_rfl
  i212 := by kernel_rfl
  i232 := by kernel_rfl
  i233 := by kernel_rfl
  m15 := by kernel_rfl
  m16 := by kernel_rfl
  m17 := by kernel_rfl
  m18 := by kernel_rfl
  m19 := by kernel_rfl
  c0 := by kernel_rfl
  c2 := by kernel_rfl
  c3 := by kernel_rfl
  c4 := by kernel_rfl
  c5 := by kernel_rfl
  c9 := by kernel_rfl
  c20 := by kernel_rfl
  c21 := by kernel_rfl
  c37 := by kernel_rfl
  c46 := by kernel_rfl
  c51 := by kernel_rfl
  c53 := by kernel_rfl
  c75 := by kernel_rfl
  c76 := by kernel_rfl
  c80 := by kernel_rfl
  c85 := by kernel_rfl
  c127 := by kernel_rfl
  c143 := by kernel_rfl
  c145 := by kernel_rfl
  c167 := by kernel_rfl
  c168 := by kernel_rfl
  c171 := by kernel_rfl
  c173 := by kernel_rfl
  c175 := by kernel_rfl
  c210 := by kernel_rfl
  c212 := by kernel_rfl
  c213 := by kernel_rfl
  c232 := by kernel_rfl
  c233 := by kernel_rfl }
open Go.RowKit in
theorem Tryz.strconv_Atoi_ok (s : ByteArray) (hmax : s.size ≤ 9223372036854775806) (v : Int) (h : Lib.atoiAll s.data.toList = .ok v) (w : World) :
    Calls Tryz.prog 127 #[.string s] w fun e w' => e = .returned (.tuple #[.int .i64 v, .nilIface]) ∧ (w' = w ∨ ∃ t, w' = Lib.bytesWorld w 5 t) := Any.strconv_Atoi_ok Tryz.laysC172 s hmax v h w
open Go.RowKit in
theorem Tryz.strconv_Atoi_range (s : ByteArray) (hlim : s.size ≤ 281474976710656) (h : Lib.atoiAll s.data.toList = .range) (ev : Value) (w : World) (hv : w.cell? ⟨6, 0, none⟩ = some ev) (hev : ev = .nilIface ∨ ∃ te pe, ev = .iface te pe) :
    Calls Tryz.prog 127 #[.string s] w fun e w' => ∃ N, e = .returned (.tuple #[.int .i64 (Lib.atoiSat s.data.toList), .iface 194 (.pointer (some ⟨N, 0, none⟩))]) ∧ w.heap.size ≤ N ∧ w'.heap[N]? = some (.cells #[.string ⟨#[65, 116, 111, 105]⟩, .string s, ev] 200 (0, 0)) ∧ Below w.heap.size w w' := Any.strconv_Atoi_range Tryz.laysC172 s hlim h ev w hv hev

end Go.Proofs
