/- The reference of programs as text: names, levels. The reference of programs as text: numbers. -/
import Derived.Test.YthemehdcakimgaiGreatDoorBgAL
namespace Go.Proofs.YthemehdcakimgaiGreatDoor
open Go.RowKit

set_option maxHeartbeats 1000000 in
theorem rres_any (s : ByteArray) (w : World) : Calls Tryz.prog 54 #[.string s] w fun e w' => e = .returned (.bool (decide (¬ kwd (by' s) = 2))) ∧ w' = w := by
  have e : decide (¬ kwd (by' s) = 2) = (s.toList == [102, 110] || s.toList == [108, 101, 116] || s.toList == [110, 101, 101, 100] || s.toList == [105, 102] || s.toList == [116, 104, 101, 110] || s.toList == [101, 108, 115, 101]) := by
    rw [by_list]
    unfold kwd
    generalize by' s = t
    repeat' split
    all_goals simp_all
  rw [e]
  clear e
  cases x1 : s.toList == [102, 110] with
  | true =>
    go_enter Tryz.func54, Tryz.ntmps54
    go_wp2_with fail
    go_ret
    exact ⟨rfl, rfl⟩
  | false =>
    cases x2 : s.toList == [108, 101, 116] with
    | true =>
      go_enter Tryz.func54, Tryz.ntmps54
      go_wp2_with fail
      go_ret
      exact ⟨rfl, rfl⟩
    | false =>
      cases x3 : s.toList == [110, 101, 101, 100] with
      | true =>
        go_enter Tryz.func54, Tryz.ntmps54
        go_wp2_with fail
        go_ret
        exact ⟨rfl, rfl⟩
      | false =>
        cases x4 : s.toList == [105, 102] with
        | true =>
          go_enter Tryz.func54, Tryz.ntmps54
          go_wp2_with fail
          go_ret
          exact ⟨rfl, rfl⟩
        | false =>
          cases x5 : s.toList == [116, 104, 101, 110] with
          | true =>
            go_enter Tryz.func54, Tryz.ntmps54
            go_wp2_with fail
            go_ret
            exact ⟨rfl, rfl⟩
          | false =>
            cases x6 : s.toList == [101, 108, 115, 101] with
            | true =>
              go_enter Tryz.func54, Tryz.ntmps54
              go_wp2_with fail
              go_ret
              exact ⟨rfl, rfl⟩
            | false =>
              go_enter Tryz.func54, Tryz.ntmps54
              go_wp2_with fail
              go_ret
              exact ⟨rfl, rfl⟩
/-- a token is a name, or why it is none -/
theorem tok_name {L : List UInt8} {j : Nat} {c : UInt8} {t : List UInt8} (hb : tkb L j = false) (ht : (tok L j).text = c :: t) : (tok L j).kind = 2 ↔ (isLt c = true ∧ kwd (tok L j).text = 2) := by
  rcases tok_not L j hb with ⟨h1, _, _⟩ | ⟨_, h2⟩ | ⟨h1, c', t', h2, h3⟩
  · rw [h1, ht, wkd]
    by_cases hc : isLt c = true
    · rw [if_pos hc]; simp [hc]
    · rw [if_neg hc]
      constructor
      · intro h
        repeat' split at h
        all_goals omega
      · intro h; exact absurd h.1 hc
  · rw [h2] at ht; cases ht
  · rw [h2] at ht
    injection ht with e1 _
    constructor
    · intro h; omega
    · intro h
      have : inWd c = true := by unfold inWd; rw [h.1]; simp
      rw [← e1, h3] at this; cases this
theorem pName_not {L : List UInt8} {j : Nat} (h : ¬ (tok L j).kind = 2) : pName L j = .bad 5 (tok L j).at' := by
  unfold pName pTake
  rw [if_neg h]
  rfl
/-- what name leaves -/
def RgNm {α : Type} (R : Nat) (T : ByteArray) (r : Res α) (l : Nat) (w : World) (en : Ending) (w' : World) : Prop := ∃ v, en = .returned (.string v) ∧ Fr R w w' ∧ RgW w' R T (r.bind fun _ j => pName (by' T) j) l ∧ ∀ x j, (r.bind fun _ j => pName (by' T) j) = .ok x j → v = bs x.1

set_option maxRecDepth 100000 in
set_option maxHeartbeats 1000000 in
theorem rname_any {α : Type} (R l : Nat) (T : ByteArray) (r : Res α) (w : World) (h : RgW w R T r l) : Calls Tryz.prog 32 #[.pointer (some ⟨R, 0, none⟩)] w (RgNm R T r l w) := by
  have hnot : ∀ (x : Bool) (w : World), (Op.unary .not (.bool x)).run Tryz.prog w = .ok (.bool (!x)) w := fun _ _ => rfl
  have HWD : Hid (∀ v W, Fr R w W → RgW W R T (r.bind fun _ j => pName (by' T) j) l → (∀ x j, (r.bind fun _ j => pName (by' T) j) = .ok x j → v = bs x.1) → RgNm R T r l w (.returned (.string v)) W) := fun v W h1 h2 h3 => ⟨v, rfl, h1, h2, h3⟩
  rcases h.cases with ⟨x, j, hr, hg⟩ | ⟨e, a, hf, hr⟩
  · have c1 := hg.h.c1
    have c2 := hg.h.c2
    have c4 := hg.h.c4
    have HBD : Hid (∀ W er, Fr R w W → (r.bind fun _ j => pName (by' T) j) = .bad er (tok (by' T) j).at' → er ≠ 0 → RgR W R T ((tok (by' T) j).at' : Nat) (bs (tok (by' T) j).text) (l : Nat) (er : Nat) ((tok (by' T) j).at' : Nat) → RgNm R T r l w (.returned (.string ⟨#[]⟩)) W) := fun W er h1 h2 h3 h4 => HWD.out _ W h1 (by rw [h2]; exact ⟨h3, _, _, _, h4⟩) (fun x j h => by rw [h2] at h; cases h)
    have HB : Hid ((r.bind fun _ j => pName (by' T) j) = pName (by' T) j) := by unfold Hid; rw [hr]; rfl
    have HG := hid hg
    cases htx : (tok (by' T) j).text with
    | nil =>
      have HK : Hid (pName (by' T) j = .bad 5 (tok (by' T) j).at') := pName_not (by
        have := (tok_end (by' T) j (by rw [by_len]; exact hg.le)).2 htx
        omega)
      rw [htx] at c2
      have q : ((bs []).toList == []) = true := by rw [bs_list]; rfl
      have HFL := hid (rfail_any R T _ _ _ _ _ 5 ((tok (by' T) j).at' : Nat) w hg.h)
      generalize hbs : bs [] = tx at c2 q
      clear hg h hr hbs
      go_enter Tryz.func32, Tryz.ntmps32
      go_wp2_with fail
      refine HFL.out.mono ?_
      rintro e w1 ⟨rfl, hf, hr⟩
      have HE := hid (HBD.out w1 5 hf (HB.out.trans HK.out) (by decide) hr)
      clear hf hr
      go_wp2_with fail
      go_ret
      exact HE.out
    | cons c t =>
      have hne : ((bs (tok (by' T) j).text).toList == []) = false := by rw [bs_list, htx]; rfl
      have h0 : 0 < (bs (tok (by' T) j).text).size := by rw [bs_size, htx]; simp
      have hc : (bs (tok (by' T) j).text)[0] = c := by rw [bs_get]; simp [htx]
      have HN := hid (tok_name hg.ok htx)
      have HLT := hid (rlet_any c)
      have HRS := hid (rres_any (bs (tok (by' T) j).text))
      rw [by_bs] at HRS
      have hsz : (bs (tok (by' T) j).text).size = (tok (by' T) j).text.length := bs_size _
      have HFL := hid (fun er => rfail_any R T _ _ _ _ _ er ((tok (by' T) j).at' : Nat) w hg.h)
      have HON := hid (ron_any R j l T w hg)
      have h00 : (0 : Int) < ((bs (tok (by' T) j).text).size : Int) := by omega
      have HPN : Hid ((tok (by' T) j).kind = 2 → pName (by' T) j = if 16 < (tok (by' T) j).text.length then .bad 3 (tok (by' T) j).at' else .ok ((tok (by' T) j).text, (tok (by' T) j).at') (tok (by' T) j).nx) := fun hk => by
        unfold pName pTake
        rw [if_pos hk]
        rfl
      have HNT := hid (@pName_not (by' T) j)
      have HTX : Hid (bs (tok (by' T) j).text = bs (tok (by' T) j).text) := rfl
      clear htx hg h hr
      unfold Hid at HTX
      generalize hgt : bs (tok (by' T) j).text = tx at *
      generalize (tok (by' T) j).text = tl at *
      replace HTX := hid hgt
      clear hgt
      generalize (tok (by' T) j).at' = at' at *
      by_cases hl : isLt c = true
      · by_cases hkw : kwd tl = 2
        · have hk := HN.out.2 ⟨hl, hkw⟩
          have HKP := hid (HPN.out hk)
          rw [hl] at HLT
          rw [decide_eq_false (by simpa using hkw)] at HRS
          by_cases h16 : 16 < tl.length
          · rw [if_pos h16] at HKP
            have q16 : (16 : Int) < (tx.size : Int) := by omega
            clear hl hkw hk h16 hsz
            go_enter Tryz.func32, Tryz.ntmps32
            go_wp2_with fail
            refine (HLT.out w).mono ?_
            rintro e w1 ⟨rfl, rfl⟩
            go_wp2_with fail
            refine (HRS.out w1).mono ?_
            rintro e w2 ⟨rfl, rfl⟩
            go_wp2_with fail
            refine (HFL.out 3).mono ?_
            rintro e w3 ⟨rfl, hf, hr⟩
            have HE := hid (HBD.out w3 3 hf (HB.out.trans HKP.out) (by decide) hr)
            clear hf hr
            go_wp2_with fail
            go_ret
            exact HE.out
          · rw [if_neg h16] at HKP
            have q16 : ¬ (16 : Int) < (tx.size : Int) := by omega
            clear hl hkw hk h16 hsz
            go_enter Tryz.func32, Tryz.ntmps32
            go_wp2_with fail
            refine (HLT.out w).mono ?_
            rintro e w1 ⟨rfl, rfl⟩
            go_wp2_with fail
            refine (HRS.out w1).mono ?_
            rintro e w2 ⟨rfl, rfl⟩
            go_wp2_with fail
            refine HON.out.mono ?_
            rintro e w3 ⟨rfl, hf, hr⟩
            have HE := hid (HWD.out tx w3 hf (by rw [HB.out, HKP.out]; exact hr.of rfl) (fun x j h => by rw [HB.out, HKP.out] at h; injection h with h _; rw [← h]; exact HTX.out.symm))
            clear hf hr
            go_wp2_with fail
            go_ret
            exact HE.out
        · have HKP := hid (HNT.out (fun h => hkw (HN.out.1 h).2))
          rw [hl] at HLT
          rw [decide_eq_true (by simpa using hkw)] at HRS
          clear hl hkw
          go_enter Tryz.func32, Tryz.ntmps32
          go_wp2_with fail
          refine (HLT.out w).mono ?_
          rintro e w1 ⟨rfl, rfl⟩
          go_wp2_with fail
          refine (HRS.out w1).mono ?_
          rintro e w2 ⟨rfl, rfl⟩
          go_wp2_with fail
          refine (HFL.out 5).mono ?_
          rintro e w3 ⟨rfl, hf, hr⟩
          have HE := hid (HBD.out w3 5 hf (HB.out.trans HKP.out) (by decide) hr)
          clear hf hr
          go_wp2_with fail
          go_ret
          exact HE.out
      · have HKP := hid (HNT.out (fun h => hl (HN.out.1 h).1))
        have hl' : isLt c = false := by simpa using hl
        rw [hl'] at HLT
        generalize decide (¬ kwd tl = 2) = z at HRS
        clear hl hl'
        go_enter Tryz.func32, Tryz.ntmps32
        go_wp2_with fail
        refine (HLT.out w).mono ?_
        rintro e w1 ⟨rfl, rfl⟩
        go_wp2_with fail
        refine (HRS.out w1).mono ?_
        rintro e w2 ⟨rfl, rfl⟩
        go_wp2_with fail
        refine (HFL.out 5).mono ?_
        rintro e w3 ⟨rfl, hf, hr⟩
        have HE := hid (HBD.out w3 5 hf (HB.out.trans HKP.out) (by decide) hr)
        clear hf hr
        go_wp2_with fail
        go_ret
        exact HE.out
  · have HRB : Hid ((r.bind fun _ j => pName (by' T) j) = .bad e a) := by
      rcases hr with h1 | ⟨x, j, h1, h2, h3, h4⟩
      · unfold Hid; rw [h1]; rfl
      · unfold Hid
        rw [h1, h3, h4]
        exact pName_not (by omega)
    obtain ⟨he, at', tk, dp, hR⟩ := hf
    have c1 := hR.c1
    have c2 := hR.c2
    have c4 := hR.c4
    have q : ((e : Int) != 0) = true := by simp; omega
    have HFL := hid (rfail_any R T _ _ _ _ _ 5 at' w hR)
    rw [if_neg (by omega), if_neg (by omega)] at HFL
    have HE := hid he
    clear hR h hr he
    go_enter Tryz.func32, Tryz.ntmps32
    go_wp2_with fail
    refine HFL.out.mono ?_
    rintro e' w1 ⟨rfl, hf, hr⟩
    have HX := hid (HWD.out ⟨#[]⟩ w1 hf (by rw [HRB.out]; exact ⟨HE.out, _, _, _, hr⟩) (fun x j h => by rw [HRB.out] at h; cases h))
    clear hf hr
    go_wp2_with fail
    go_ret
    exact HX.out

set_option maxRecDepth 100000 in
set_option maxHeartbeats 1000000 in
theorem rdeep_any (R j l k : Nat) (T : ByteArray) (w : World) (h : RgG w R T j l) (hk : (tok (by' T) j).kind = k) : Calls Tryz.prog 56 #[.pointer (some ⟨R, 0, none⟩)] w fun en w' => ∃ b, en = .returned (.bool b) ∧ Fr R w w' ∧ RgW w' R T (pEnter (by' T) k j l) (l + 1) := by
  have c1 := h.h.c1
  have c3 := h.h.c3
  have c4 := h.h.c4
  have f3 := h.h.fz 3
  have hw : IntKind.i64.wrap ((l : Int) + 1) = (l : Int) + 1 := by rw [IntKind.wrap_i64]; have := h.lev; omega
  have hP : pEnter (by' T) k j l = if l = 64 then .bad 9 (tok (by' T) j).at' else .ok () (tok (by' T) j).nx := by
    unfold pEnter pTake
    rw [if_pos hk]
    rfl
  rw [hP]
  obtain ⟨V, hV⟩ : ∃ V, V = w.setCell ⟨R, 3, none⟩ (.int .i64 ((l : Int) + 1)) := ⟨_, rfl⟩
  have hRV : RgR V R T ((tok (by' T) j).at' : Nat) (bs (tok (by' T) j).text) ((l : Int) + 1) 0 0 := by rw [hV]; exact h.h.s3 _
  have HF : Hid (Fr R w V) := by unfold Hid; rw [hV]; exact (Fr.refl R w).set 3 _
  have v1 := hRV.c1
  have v3 := hRV.c3
  by_cases h64 : l = 64
  · rw [if_pos h64]
    have q : (64 : Int) < (l : Int) + 1 := by omega
    have HFL := hid (rfail_any R T _ _ _ _ _ 9 ((tok (by' T) j).at' : Nat) V hRV)
    clear h64 h hRV hk hP
    go_enter Tryz.func56, Tryz.ntmps56
    go_wp2_with fail
    rw [← hV]
    clear hV
    go_wp2_with fail
    refine HFL.out.mono ?_
    rintro e w1 ⟨rfl, hf, hr⟩
    have HE : Hid (Fr R w w1 ∧ RgW w1 R T (.bad 9 (tok (by' T) j).at' : Res Unit) (l + 1)) := ⟨HF.out.trans hf, by decide, _, _, _, hr⟩
    clear hf hr
    go_wp2_with fail
    go_ret
    first | exact ⟨_, rfl, HE.out⟩ | exact ⟨rfl, HE.out⟩ | exact HE.out
  · rw [if_neg h64]
    have q : ¬ (64 : Int) < (l : Int) + 1 := by have := h.lev; omega
    have HON := hid (ron_any R j (l + 1) T V ⟨hRV, h.ok, h.le, h.small, by have := h.lev; omega⟩)
    clear h64 h hRV hk hP
    go_enter Tryz.func56, Tryz.ntmps56
    go_wp2_with fail
    rw [← hV]
    clear hV
    go_wp2_with fail
    refine HON.out.mono ?_
    rintro e w1 ⟨rfl, hf, hr⟩
    have HE : Hid (Fr R w w1 ∧ RgW w1 R T (.ok () (tok (by' T) j).nx : Res Unit) (l + 1)) := ⟨HF.out.trans hf, hr⟩
    clear hf hr
    go_wp2_with fail
    go_ret
    first | exact ⟨_, rfl, HE.out⟩ | exact ⟨rfl, HE.out⟩ | exact HE.out

end Go.Proofs.YthemehdcakimgaiGreatDoor

namespace Go.Proofs.YthemehdcakimgaiGreatDoor
open Go.RowKit

theorem numV_snoc (t : List UInt8) (c : UInt8) : numV (t ++ [c]) = numV t * 10 + (c.toNat - 48) := by
  unfold numV
  rw [List.foldl_append]
  rfl
theorem numV_take (t : List UInt8) (i : Nat) (h : i < t.length) : numV (t.take (i + 1)) = numV (t.take i) * 10 + ((t.getD i 0).toNat - 48) := by
  rw [List.take_add_one, List.getElem?_eq_getElem h, List.getD_eq_getElem?_getD, List.getElem?_eq_getElem h]
  exact numV_snoc _ _
theorem numV_mono (t : List UInt8) : ∀ (d i : Nat), numV (t.take i) ≤ numV (t.take (i + d))
  | 0, i => Nat.le_refl _
  | d + 1, i => by
    have h := numV_mono t d i
    rcases Nat.lt_or_ge (i + d) t.length with g | g
    · rw [show i + (d + 1) = i + d + 1 by omega, numV_take t _ g]
      omega
    · rw [List.take_of_length_le (l := t) (i := i + (d + 1)) (by omega)]
      rw [List.take_of_length_le (l := t) (i := i + d) (by omega)] at h
      exact h
/-- a token of digits, or why it is none -/
theorem tok_num {L : List UInt8} {j : Nat} {c : UInt8} {t : List UInt8} (hb : tkb L j = false) (ht : (tok L j).text = c :: t) (hc : isDg c = true) : (tok L j).kind = 3 ↔ ((tok L j).text.all isDg = true ∧ ¬ (c = 48 ∧ t ≠ [])) := by
  have hw : inWd c = true := by unfold inWd; rw [hc]; simp
  have hl : isLt c = false := by
    unfold isDg at hc
    unfold isLt
    simp [UInt8.le_iff_toNat_le] at hc ⊢
    omega
  rcases tok_not L j hb with ⟨h1, _, _⟩ | ⟨_, h2⟩ | ⟨_, c', t', h2, h3⟩
  · rw [h1, ht, wkd, if_neg (by rw [hl]; decide)]
    by_cases hz : c = 48 ∧ t ≠ []
    · rw [if_pos hz]
      constructor
      · intro h; omega
      · intro h; exact absurd hz h.2
    · rw [if_neg hz]
      by_cases ha : (c :: t).all isDg = true
      · rw [if_pos ha]; exact ⟨fun _ => ⟨ha, hz⟩, fun _ => rfl⟩
      · rw [if_neg ha]
        constructor
        · intro h; omega
        · intro h; exact absurd h.1 ha
  · rw [h2] at ht; cases ht
  · rw [h2] at ht
    injection ht with e1 _
    rw [← e1, h3] at hw; cases hw
theorem pNum_not {L : List UInt8} {j : Nat} (h : ¬ (tok L j).kind = 3) : pNum L j = .bad 5 (tok L j).at' := by
  unfold pNum pTake
  rw [if_neg h]
  rfl
theorem pNum_yes {L : List UInt8} {j : Nat} (h : (tok L j).kind = 3) : pNum L j = if 9223372036854775807 < numV (tok L j).text then .bad 3 (tok L j).at' else .ok (.node 0 [] 0 (numV (tok L j).text) []) (tok L j).nx := by
  unfold pNum pTake
  rw [if_pos h]
  rfl
/-- what number leaves -/
def NuR (R : Nat) (T : ByteArray) (j l : Nat) (w : World) (en : Ending) (w' : World) : Prop := Fr R w w' ∧
  ((en = .returned (.int .i64 (numV (tok (by' T) j).text : Nat)) ∧ RgG w' R T j l ∧ pNum (by' T) j = .ok (.node 0 [] 0 (numV (tok (by' T) j).text) []) (tok (by' T) j).nx) ∨
   (en = .returned (.int .i64 0) ∧ ∃ e, RgF w' R T e (tok (by' T) j).at' ∧ pNum (by' T) j = .bad e (tok (by' T) j).at'))

set_option maxRecDepth 100000 in
set_option maxHeartbeats 2000000 in
theorem rnum_any (R j l : Nat) (T : ByteArray) (w : World) (hg : RgG w R T j l) (c : UInt8) (t : List UInt8) (ht : (tok (by' T) j).text = c :: t) (hc : isDg c = true) : Calls Tryz.prog 106 #[.pointer (some ⟨R, 0, none⟩)] w (NuR R T j l w) := by
  have hnot : ∀ (x : Bool) (w : World), (Op.unary .not (.bool x)).run Tryz.prog w = .ok (.bool (!x)) w := fun _ _ => rfl
  have c1 := hg.h.c1
  have c2 := hg.h.c2
  have HDG := hid rdig_any
  have HTN := hid (tok_num hg.ok ht hc)
  have HP5 := hid (@pNum_not (by' T) j)
  have HPY := hid (@pNum_yes (by' T) j)
  have HG := hid hg
  have HFL := hid (fun er => rfail_any R T _ _ _ _ _ er ((tok (by' T) j).at' : Nat) w hg.h)
  have hsz : (bs (tok (by' T) j).text).size = (tok (by' T) j).text.length := bs_size _
  have HGT : Hid (∀ i (h : i < (bs (tok (by' T) j).text).size), (bs (tok (by' T) j).text)[i] = (tok (by' T) j).text.getD i 0) := fun i h => by
    rw [bs_get, List.getD_eq_getElem?_getD, List.getElem?_eq_getElem (by rw [bs_size] at h; exact h)]
    rfl
  have hsm : (tok (by' T) j).text.length ≤ 4000 := by
    have h1 := tok_at (by' T) j (by rw [by_len]; exact hg.le)
    rw [by_len] at h1
    have h2 : (tok (by' T) j).nx = (tok (by' T) j).at' + (tok (by' T) j).text.length := rfl
    have := hg.small
    omega
  have HEN : Hid (∀ W er, Fr R w W → er ≠ 0 → pNum (by' T) j = .bad er (tok (by' T) j).at' → RgR W R T ((tok (by' T) j).at' : Nat) (bs (tok (by' T) j).text) (l : Nat) (er : Nat) ((tok (by' T) j).at' : Nat) → NuR R T j l w (.returned (.int .i64 0)) W) := fun W er h1 h2 h3 h4 => ⟨h1, Or.inr ⟨rfl, er, ⟨h2, _, _, _, h4⟩, h3⟩⟩
  have HEY : Hid (pNum (by' T) j = .ok (.node 0 [] 0 (numV (tok (by' T) j).text) []) (tok (by' T) j).nx → NuR R T j l w (.returned (.int .i64 (numV (tok (by' T) j).text : Nat))) w) := fun h => ⟨Fr.refl _ _, Or.inl ⟨rfl, HG.out, h⟩⟩
  have HTX : Hid ((tok (by' T) j).text = c :: t) := ht
  clear hg ht HG
  generalize bs (tok (by' T) j).text = tx at *
  obtain ⟨tl, htl⟩ : ∃ tl, tl = (tok (by' T) j).text := ⟨_, rfl⟩
  rw [← htl] at HTN HPY hsz HGT hsm HEY HTX
  have HTL := hid htl
  clear htl
  have h0 : 0 < tx.size := by rw [hsz, HTX.out]; simp
  have h00 : (0 : Int) < (tx.size : Int) := by omega
  have hc0 : tx[0] = c := by rw [HGT.out 0 h0, HTX.out]; rfl
  have HSZ := hid hsz
  have HSM := hid hsm
  have hs4 : tx.size ≤ 4000 := by omega
  have q48 : ((c.toNat : Int) == 48) = decide (c = 48) := u8_eq c 48
  clear hsz hsm
  go_enter Tryz.func106, Tryz.ntmps106
  go_wp2_with fail
  go_loop [5] (fun v => ∃ k : Nat, k ≤ tx.size ∧ v = .int .i64 k ∧ Hid ((∀ i, i < k → isDg (tl.getD i 0) = true) ∧ (1 < k → ¬ c = 48))) (fun v => tx.size - (intOf v).toNat)
  case atStart => exact ⟨0, Nat.zero_le _, rfl, fun i hi => by omega, fun h => by omega⟩
  case round =>
    obtain ⟨k, hk, rfl, HA⟩ := hrel
    by_cases hlt : k < tx.size
    · have hlt2 : (k : Int) < (tx.size : Int) := by omega
      have hwr : IntKind.i64.wrap ((k : Int) + 1) = (k : Int) + 1 := by rw [IntKind.wrap_i64]; omega
      obtain ⟨d, hd⟩ : ∃ d, tx[k] = d := ⟨_, rfl⟩
      have HD : Hid (tl.getD k 0 = d) := by unfold Hid; rw [← HGT.out k hlt, hd]
      cases hdg : isDg d with
      | false =>
        have HNK : Hid (pNum (by' T) j = .bad 5 (tok (by' T) j).at') := HP5.out (fun h3 => by
          have h4 := (HTN.out.1 h3).1
          rw [all_no tl k (by rw [← HSZ.out]; exact hlt) (by rw [HD.out]; exact hdg)] at h4
          cases h4)
        go_wp2_with fail
        refine (HDG.out d w).mono ?_
        rintro e w1 ⟨rfl, rfl⟩
        rw [hdg]
        clear hdg
        go_wp2_with fail
        refine (HFL.out 5).mono ?_
        rintro e w2 ⟨rfl, hf, hr⟩
        have HE := hid (HEN.out w2 5 hf (by decide) HNK.out hr)
        clear hf hr
        go_wp2_with fail
        go_ret
        exact HE.out
      | true =>
        by_cases h48 : c = 48
        · rw [decide_eq_true h48] at q48
          by_cases hk0 : k = 0
          · have q0 : ¬ (0 : Int) < (k : Int) := by omega
            have HA2 : Hid ((∀ i, i < k + 1 → isDg (tl.getD i 0) = true) ∧ (1 < k + 1 → ¬ c = 48)) := ⟨fun i hi => by
              obtain rfl : i = k := by omega
              rw [HD.out]; exact hdg, fun h => by omega⟩
            clear hk0 h48
            go_wp2_with fail
            refine (HDG.out d w).mono ?_
            rintro e w1 ⟨rfl, rfl⟩
            rw [hdg]
            clear hdg HA
            go_wp2_with fail
            go_round
            case rel => exact ⟨k + 1, by omega, by go_num, HA2⟩
            case measure => simp [intOf]; omega
          · have q0 : (0 : Int) < (k : Int) := by omega
            have HNK : Hid (pNum (by' T) j = .bad 5 (tok (by' T) j).at') := HP5.out (fun h3 => by
              have h4 := (HTN.out.1 h3).2
              refine h4 ⟨h48, fun e => ?_⟩
              have h5 := HSZ.out
              rw [HTX.out, e] at h5
              simp at h5
              omega)
            clear hk0 h48
            go_wp2_with fail
            refine (HDG.out d w).mono ?_
            rintro e w1 ⟨rfl, rfl⟩
            rw [hdg]
            clear hdg
            go_wp2_with fail
            refine (HFL.out 5).mono ?_
            rintro e w2 ⟨rfl, hf, hr⟩
            have HE := hid (HEN.out w2 5 hf (by decide) HNK.out hr)
            clear hf hr
            go_wp2_with fail
            go_ret
            exact HE.out
        · rw [decide_eq_false h48] at q48
          have HA2 : Hid ((∀ i, i < k + 1 → isDg (tl.getD i 0) = true) ∧ (1 < k + 1 → ¬ c = 48)) := ⟨fun i hi => by
            rcases Nat.lt_or_ge i k with g | g
            · exact HA.out.1 i g
            · obtain rfl : i = k := by omega
              rw [HD.out]; exact hdg, fun _ => h48⟩
          clear h48
          go_wp2_with fail
          refine (HDG.out d w).mono ?_
          rintro e w1 ⟨rfl, rfl⟩
          rw [hdg]
          clear hdg HA
          go_wp2_with fail
          go_round
          case rel => exact ⟨k + 1, by omega, by go_num, HA2⟩
          case measure => simp [intOf]; omega
    · obtain rfl : k = tx.size := by omega
      have hlt2 : ¬ (tx.size : Int) < (tx.size : Int) := by omega
      have HK3 : Hid (pNum (by' T) j = if 9223372036854775807 < numV tl then .bad 3 (tok (by' T) j).at' else .ok (.node 0 [] 0 (numV tl) []) (tok (by' T) j).nx) := HPY.out (HTN.out.2 ⟨all_yes tl (fun i hi => HA.out.1 i (by rw [HSZ.out]; exact hi)), fun h => by
        refine HA.out.2 ?_ h.1
        have h5 := HSZ.out
        rw [HTX.out] at h5
        cases ht : t with
        | nil => exact absurd ht h.2
        | cons a b => rw [ht] at h5; simp at h5; omega⟩)
      have HDD : Hid (∀ i, i < tx.size → isDg (tl.getD i 0) = true) := HA.out.1
      clear HA hc0 q48
      go_wp2_with fail
      go_loop [7, 3] (fun v n => ∃ (m : Nat), m ≤ tx.size ∧ v = .int .i64 m ∧ n = .int .i64 (numV (tl.take m) : Nat) ∧ Hid (numV (tl.take m) ≤ 9223372036854775807)) (fun v _ => tx.size - (intOf v).toNat)
      case atStart => exact ⟨0, Nat.zero_le _, rfl, rfl, by unfold Hid; simp [numV]⟩
      case round =>
        obtain ⟨m, hm, rfl, rfl, HN⟩ := hrel
        by_cases hlm : m < tx.size
        · have hlm2 : (m : Int) < (tx.size : Int) := by omega
          have hwm : IntKind.i64.wrap ((m : Int) + 1) = (m : Int) + 1 := by rw [IntKind.wrap_i64]; omega
          obtain ⟨d, hd⟩ : ∃ d, tx[m] = d := ⟨_, rfl⟩
          have HD : Hid (tl.getD m 0 = d) := by unfold Hid; rw [← HGT.out m hlm, hd]
          have hdd := HDD.out m hlm
          rw [HD.out] at hdd
          obtain ⟨z, hz, hz9⟩ : ∃ z : Nat, d.toNat = z + 48 ∧ z ≤ 9 := by
            unfold isDg at hdd
            simp [UInt8.le_iff_toNat_le] at hdd
            exact ⟨d.toNat - 48, by omega, by omega⟩
          have HNX : Hid (numV (tl.take (m + 1)) = numV (tl.take m) * 10 + z) := by
            unfold Hid
            rw [numV_take tl m (by rw [← HSZ.out]; exact hlm), HD.out, hz]
            omega
          have e0 : (d.toNat : Int) = (z : Int) + 48 := by omega
          have HE0 := hid e0
          clear hz hdd
          have HMO := hid (numV_mono tl (tx.size - (m + 1)) (m + 1))
          rw [show m + 1 + (tx.size - (m + 1)) = tx.size by omega, HSZ.out, List.take_length] at HMO
          generalize numV (tl.take m) = N at *
          by_cases hov : (9223372036854775807 - (z : Int)) / 10 < (N : Int)
          · have HNK : Hid (pNum (by' T) j = .bad 3 (tok (by' T) j).at') := by
              unfold Hid
              rw [HK3.out, if_pos]
              have h1 := HMO.out
              rw [HNX.out] at h1
              omega
            go_wp2_with fail
            refine (HFL.out 3).mono ?_
            rintro e w2 ⟨rfl, hf, hr⟩
            have HE := hid (HEN.out w2 3 hf (by decide) HNK.out hr)
            clear hf hr hov
            go_wp2_with fail
            go_ret
            exact HE.out
          · have hov2 : (N : Int) ≤ (9223372036854775807 - (z : Int)) / 10 := by omega
            have HN2 : Hid (N * 10 + z ≤ 9223372036854775807) := by unfold Hid; omega
            clear hov
            go_wp2_with fail
            go_round
            case rel => exact ⟨m + 1, by omega, by go_num, by rw [HNX.out]; go_num, by unfold Hid; rw [HNX.out]; exact HN2.out⟩
            case measure => simp [intOf]; omega
        · obtain rfl : m = tx.size := by omega
          have hlm2 : ¬ (tx.size : Int) < (tx.size : Int) := by omega
          have hnv : numV (tl.take tx.size) = numV tl := by rw [HSZ.out, List.take_length]
          rw [hnv] at HN ⊢
          have HE := hid (HEY.out (by rw [HK3.out, if_neg]; have := HN.out; omega))
          clear hnv
          go_wp2_with fail
          go_ret
          exact HE.out

end Go.Proofs.YthemehdcakimgaiGreatDoor
