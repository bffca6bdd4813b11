/- Package source: words of the language, signs. -/
import Derived.Test.YthpkcageimhgaaaDoorSqAB
namespace Go.Proofs.YthpkcageimhgaaaDoor
open Go.RowKit

theorem ret_i {a b : Int} (h : a = b) : Ending.returned (.int .i64 a) = .returned (.int .i64 b) := by rw [h]
theorem langWord_any (s : ByteArray) (w : World) : Calls Tryd.prog 50 #[.string s] w fun e w' => e = .returned (.int .i64 (kwd (by' s) : Nat)) ∧ w' = w := by
  rw [← by_list]
  go_enter Tryd.func50, Tryd.ntmps50
  go_wp2_with fail
  all_goals
    go_ret
    refine ⟨ret_i ?_, rfl⟩
    simp_all [kwd]
theorem all_no {p : UInt8 → Bool} (l : List UInt8) (k : Nat) (hk : k < l.length) (h : p (l.getD k 0) = false) : l.all p = false := by
  rw [List.all_eq_false]
  refine ⟨l[k], List.getElem_mem hk, ?_⟩
  rw [List.getD_eq_getElem?_getD, List.getElem?_eq_getElem hk] at h
  simpa using h
theorem all_yes {p : UInt8 → Bool} (l : List UInt8) (h : ∀ j, j < l.length → p (l.getD j 0) = true) : l.all p = true := by
  rw [List.all_eq_true]
  intro x hx
  obtain ⟨k, hk, rfl⟩ := List.getElem_of_mem hx
  have := h k hk
  rw [List.getD_eq_getElem?_getD, List.getElem?_eq_getElem hk] at this
  exact this
set_option maxHeartbeats 1000000 in
theorem wordKind_any (s : ByteArray) (w : World) (hs : s.size ≤ 1000000) (h0 : 0 < s.size) : Calls Tryd.prog 35 #[.string s] w fun e w' => e = .returned (.int .i64 (wkd (by' s) : Nat)) ∧ w' = w := by
  have hnot : ∀ (x : Bool) (w : World), (Op.unary .not (.bool x)).run Tryd.prog w = .ok (.bool (!x)) w := fun _ _ => rfl
  have HIL := hid isletter_any
  have HID := hid isdigit_any
  have HLW := hid (langWord_any s)
  obtain ⟨c, hc⟩ : ∃ c, s[0] = c := ⟨_, rfl⟩
  have HG : Hid ((by' s).getD 0 0 = c) := (by_getD s 0 h0).trans hc
  have HL := hid (by_len s)
  have HW : Hid (∃ r, by' s = c :: r) := by
    unfold Hid
    have hg := HG.out
    have hl := by_len s
    cases hb : by' s with
    | nil => rw [hb] at hl; simp at hl; omega
    | cons x r => rw [hb] at hg; exact ⟨r, by rw [show x = c from hg]⟩
  have h00 : (0 : Int) < (s.size : Int) := by omega
  by_cases h1 : isLt c = true
  · have HK : Hid (wkd (by' s) = kwd (by' s)) := by
      obtain ⟨r, hr⟩ := HW.out
      unfold Hid
      rw [hr, wkd, if_pos h1]
    go_enter Tryd.func35, Tryd.ntmps35
    go_wp2_with fail
    refine (HIL.out c w).mono ?_
    rintro e w1 ⟨rfl, rfl⟩
    rw [h1]
    go_wp2_with fail
    refine (HLW.out w1).mono ?_
    rintro e w2 ⟨rfl, rfl⟩
    go_wp2_with fail
    go_ret
    exact ⟨ret_i (by rw [HK.out]), rfl⟩
  · have h1' : isLt c = false := by simpa using h1
    by_cases h2 : ¬ by' s = [48] ∧ c = 48
    · have HK : Hid (wkd (by' s) = 0) := by
        obtain ⟨r, hr⟩ := HW.out
        unfold Hid
        have h5 := h2.1
        rw [hr, wkd, if_neg (by rw [h1']; simp), if_pos ⟨h2.2, fun e => h5 (by rw [hr, e, h2.2])⟩]
      have t1 : (s.toList == [48]) = false := by rw [by_list]; simpa using h2.1
      have t2 : ((c.toNat : Int) == 48) = true := by rw [h2.2]; rfl
      clear h2 h1
      go_enter Tryd.func35, Tryd.ntmps35
      go_wp2_with fail
      refine (HIL.out c w).mono ?_
      rintro e w1 ⟨rfl, rfl⟩
      rw [h1']
      go_wp2_with fail
      go_ret
      exact ⟨ret_i (by rw [HK.out]; rfl), rfl⟩
    · have HK : Hid (wkd (by' s) = if (by' s).all isDg then 3 else 0) := by
        obtain ⟨r, hr⟩ := HW.out
        unfold Hid
        rw [hr] at h2 ⊢
        rw [wkd, if_neg (by rw [h1']; simp), if_neg (fun h5 => h2 ⟨fun e => h5.2 (by injection e), h5.1⟩)]
      have HT : Hid ((s.toList == [48]) = true ∨ ((s.toList == [48]) = false ∧ ((c.toNat : Int) == 48) = false)) := by
        unfold Hid
        rw [by_list]
        by_cases h5 : by' s = [48]
        · exact .inl (by simpa using h5)
        · refine .inr ⟨by simpa using h5, ?_⟩
          have h6 : ¬ c = 48 := fun e => h2 ⟨h5, e⟩
          have h7 : ¬ (c.toNat : Int) = 48 := fun e => h6 (by apply UInt8.toNat_inj.1; show c.toNat = 48; omega)
          simpa using h7
      clear h2 h1
      rcases HT.out with t1 | ⟨t1, t2⟩
      all_goals
        clear HT
        go_enter Tryd.func35, Tryd.ntmps35
        go_wp2_with fail
        refine (HIL.out c w).mono ?_
        rintro e w1 ⟨rfl, rfl⟩
        rw [h1']
        go_wp2_with fail
        go_loop [18] (fun i => ∃ k : Nat, k ≤ s.size ∧ i = .int .i64 k ∧ Hid (∀ j, j < k → isDg ((by' s).getD j 0) = true)) (fun i => s.size - (intOf i).toNat)
        case atStart => exact ⟨0, Nat.zero_le _, rfl, fun j hj => by omega⟩
        case round =>
          obtain ⟨k, hk, rfl, HA⟩ := hrel
          by_cases hlt : k < s.size
          · have hlt2 : (k : Int) < (s.size : Int) := by omega
            have hwr : IntKind.i64.wrap ((k : Int) + 1) = (k : Int) + 1 := by rw [IntKind.wrap_i64]; omega
            obtain ⟨d, hd⟩ : ∃ d, s[k] = d := ⟨_, rfl⟩
            have HGD : Hid ((by' s).getD k 0 = d) := (by_getD s k hlt).trans hd
            by_cases h2 : isDg d = true
            · go_wp2_with fail
              refine (HID.out d w1).mono ?_
              rintro e w2 ⟨rfl, rfl⟩
              rw [h2]
              go_wp2_with fail
              go_round
              case rel => exact ⟨k + 1, by omega, by go_num, fun j hj => by
                  rcases Nat.lt_or_ge j k with g | g
                  · exact HA.out j g
                  · obtain rfl : j = k := by omega
                    rw [HGD.out]; exact h2⟩
              case measure => simp [intOf]; omega
            · have h2' : isDg d = false := by simpa using h2
              clear h2
              go_wp2_with fail
              refine (HID.out d w1).mono ?_
              rintro e w2 ⟨rfl, rfl⟩
              rw [h2']
              go_wp2_with fail
              go_ret
              exact ⟨ret_i (by rw [HK.out, all_no (by' s) k (by rw [HL.out]; exact hlt) (by rw [HGD.out]; exact h2')]; rfl), rfl⟩
          · obtain rfl : k = s.size := by omega
            have hlt2 : ¬ (s.size : Int) < (s.size : Int) := by omega
            go_wp2_with fail
            go_ret
            exact ⟨ret_i (by rw [HK.out, all_yes (by' s) (fun j hj => HA.out j (by rw [HL.out] at hj; exact hj))]; rfl), rfl⟩

theorem sgn_ne (c : UInt8) (r : List UInt8) (h1 : ¬ (c = 61 ∧ r.head? = some 61)) : sgn (c :: r) = (if c = 40 then 10 else if c = 41 then 11 else if c = 44 then 12 else if c = 59 then 13 else if c = 61 then 14 else if c = 43 then 16 else if c = 45 then 17 else if c = 42 then 18 else if c = 47 then 19 else 0, 1) := by
  by_cases h2 : c = 61
  · subst h2
    cases r with
    | nil => rfl
    | cons d q =>
      have h3 : ¬ d = 61 := fun e => h1 ⟨rfl, by rw [e]; rfl⟩
      unfold sgn
      simp only [if_true]
      split
      · rename_i h4
        injection h4 with h4
        exact absurd h4 h3
      · rfl
  · unfold sgn
    simp only [if_neg h2]
set_option maxHeartbeats 1000000 in
theorem sign_any (s : ByteArray) (w : World) (h0 : 0 < s.size) : Calls Tryd.prog 36 #[.string s] w fun e w' => e = .returned (.tuple #[.int .i64 ((sgn (by' s)).1 : Nat), .int .i64 ((sgn (by' s)).2 : Nat)]) ∧ w' = w := by
  have HP := hid (Tryd.strings_HasPrefix s ⟨#[61, 61]⟩ w)
  obtain ⟨c, hc⟩ : ∃ c, s[0] = c := ⟨_, rfl⟩
  have hg : (by' s).getD 0 0 = c := (by_getD s 0 h0).trans hc
  have h00 : (0 : Int) < (s.size : Int) := by omega
  have hl := by_len s
  obtain ⟨r, hr⟩ : ∃ r, by' s = c :: r := by
    cases hb : by' s with
    | nil => rw [hb] at hl; simp at hl; omega
    | cons x r => rw [hb] at hg; exact ⟨r, by rw [show x = c from hg]⟩
  have hp : Lib.hasPrefix s.data.toList (⟨#[61, 61]⟩ : ByteArray).data.toList = decide (c = 61 ∧ r.head? = some 61) := by
    show Lib.hasPrefix (by' s) [61, 61] = _
    rw [hr, Bool.eq_iff_iff]
    cases r with
    | nil => simp [Lib.hasPrefix, List.isPrefixOf]
    | cons d q => simp [Lib.hasPrefix, List.isPrefixOf]; constructor <;> (rintro ⟨h5, h6⟩; exact ⟨h5.symm, h6.symm⟩)
  rw [hp] at HP
  rw [hr]
  clear hg hl hp hr
  by_cases h1 : c = 61 ∧ r.head? = some 61
  · rw [decide_eq_true h1] at HP
    obtain ⟨rfl, h2⟩ := h1
    obtain ⟨q, rfl⟩ : ∃ q, r = 61 :: q := by
      cases r with
      | nil => simp at h2
      | cons d q => exact ⟨q, by rw [show d = 61 from by simpa using h2]⟩
    go_enter Tryd.func36, Tryd.ntmps36
    go_wp2_with fail
    refine HP.out.mono ?_
    rintro e w1 ⟨rfl, rfl⟩
    go_wp2_with fail
    go_ret2
    exact ⟨rfl, rfl⟩
  · rw [decide_eq_false h1] at HP
    rw [sgn_ne c r h1]
    clear h1

    have hcn : ∀ k : UInt8, ((c.toNat : Int) == (k.toNat : Int)) = decide (c = k) := fun k => by
      rw [Bool.eq_iff_iff]
      simp
      exact ⟨fun h => UInt8.toNat_inj.1 (by omega), fun h => by rw [h]⟩
    have q1 : ((c.toNat : Int) == 40) = decide (c = 40) := hcn 40
    have q2 : ((c.toNat : Int) == 41) = decide (c = 41) := hcn 41
    have q3 : ((c.toNat : Int) == 44) = decide (c = 44) := hcn 44
    have q4 : ((c.toNat : Int) == 59) = decide (c = 59) := hcn 59
    have q5 : ((c.toNat : Int) == 61) = decide (c = 61) := hcn 61
    have q6 : ((c.toNat : Int) == 43) = decide (c = 43) := hcn 43
    have q7 : ((c.toNat : Int) == 45) = decide (c = 45) := hcn 45
    have q8 : ((c.toNat : Int) == 42) = decide (c = 42) := hcn 42
    have q9 : ((c.toNat : Int) == 47) = decide (c = 47) := hcn 47
    clear hcn
    go_enter Tryd.func36, Tryd.ntmps36
    go_wp2_with fail
    refine HP.out.mono ?_
    rintro e w1 ⟨rfl, rfl⟩
    go_wp2_with fail
    all_goals go_ret2
    all_goals simp_all

end Go.Proofs.YthpkcageimhgaaaDoor
