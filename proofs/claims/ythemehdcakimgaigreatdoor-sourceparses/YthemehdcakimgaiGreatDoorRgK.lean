/- The reference of programs as text: part. -/
import Derived.Test.YthemehdcakimgaiGreatDoorRgM
namespace Go.Proofs.YthemehdcakimgaiGreatDoor
open Go.RowKit

set_option maxRecDepth 100000 in
set_option maxHeartbeats 2000000 in
theorem rpart_bad (R : Nat) (T : ByteArray) (l e a : Nat) (w : World) (hf : RgF w R T e a) (q : Res Tr) (hq : q = .bad e a) :
    Calls Tryz.prog 99 #[.pointer (some ⟨R, 0, none⟩)] w (XR R T q l w) := by
  have HF := hid hf
  obtain ⟨he, at', tk, dp, hR⟩ := hf
  have hlt := hR.lt
  have c4 := hR.c4
  have q4 : ((e : Int) != 0) = true := by simp; omega
  obtain ⟨W0, hW0⟩ : ∃ W0, w.alloc (.cells #[.string ⟨#[]⟩, .string ⟨#[]⟩, .int .i64 0, .int .i64 0, .slice none 0 0] 97) = W0 := ⟨_, rfl⟩
  have hb0 : Below w.heap.size w W0 := by rw [← hW0]; exact (Below.refl w.heap.size w).alloc (Nat.le_refl _) _
  have HE : Hid (XR R T q l w (.returned (.pointer (some ⟨w.heap.size, 0, none⟩))) W0) := ⟨_, rfl, Fr.below hb0 (Nat.le_of_lt hlt), by rw [hq]; exact HF.out.keep (hb0.block _ hlt), fun t jj h => by rw [hq] at h; cases h⟩
  clear hq hR hb0 he
  go_enter Tryz.func99, Tryz.ntmps99
  go_wp2_with fail
  go_ret
  exact HE.out

set_option maxRecDepth 100000 in
set_option maxHeartbeats 2000000 in
theorem rpart_brack (R : Nat) (T : ByteArray) (f j l : Nat) (w : World) (hE : EXP R T f) (hg : RgG w R T j l) (hk : (tok (by' T) j).kind = 10) (q : Res Tr) (hq : q = pPart (by' T) (f + 1) j l) (hro : q ≠ .out) :
    Calls Tryz.prog 99 #[.pointer (some ⟨R, 0, none⟩)] w (XR R T q l w) := by
  have htx := (tok_spl (by' T) j 10 (by decide) (by decide)).1 hk
  have hlt := hg.h.lt
  have c2 := hg.h.c2
  have c4 := hg.h.c4
  have t1 : ((bs (tok (by' T) j).text).toList == [40]) = true := by rw [bs_list, htx]; rfl
  obtain ⟨q1, hq1⟩ : ∃ q1, q1 = pEnter (by' T) 10 j l := ⟨_, rfl⟩
  obtain ⟨q2, hq2⟩ : ∃ q2 : Res Tr, q2 = q1.bind fun _ a => pExpr (by' T) f a (l + 1) := ⟨_, rfl⟩
  have hqq : q = q2.wn (by' T) 11 := by
    rw [hq, pPart, if_neg (by omega), if_pos hk, hq2, hq1]
    cases pEnter (by' T) 10 j l with
    | out => rfl
    | bad e a => rfl
    | ok _ a1 =>
      simp only [Res.wn, Res.bind]
  have n2 : q2 ≠ .out := Res.out_wn (by rw [← hqq]; exact hro)
  have HDP := hid (rdeep_any R j l 10 T w hg hk)
  rw [← hq1] at HDP
  have HEX := hid (fun (W : World) (h : RgW W R T q1 (l + 1)) => hE _ q1 (l + 1) W h (by rw [← hq2]; exact n2))
  rw [← hq2] at HEX
  have HWN := hid (fun (W : World) (h : RgW W R T q2 l) => rwant_any R l 11 T ⟨#[41]⟩ q2 W h (by decide) (by decide) rfl)
  have HQQ := hid hqq
  generalize bs (tok (by' T) j).text = tx at *
  clear hE hg hk hq hro htx hq1 hq2 hqq n2
  go_enter Tryz.func99, Tryz.ntmps99
  go_wp2_with fail
  refine HDP.out.mono ?_
  rintro e w1 ⟨b, rfl, hf1, hm1⟩
  have HF1 := hid hf1
  have HM1 := hid hm1
  clear hf1 hm1 c2 c4
  go_wp2_with fail
  refine (HEX.out w1 HM1.out).mono ?_
  rintro e w2 ⟨p2, rfl, hf2, hm2, ht2⟩
  obtain ⟨d, r3, s3, hm3⟩ := hm2.back
  obtain ⟨dd, hdd⟩ : ∃ dd, IntKind.i64.wrap (d - 1) = dd := ⟨_, rfl⟩
  rw [hdd] at hm3
  have HF3 : Hid (Fr R w (w2.setCell ⟨R, 3, none⟩ (.int .i64 dd))) := (HF1.out.trans hf2).set 3 _
  have HM3 := hid hm3
  have hs1 := HF1.out.size
  have HT3 : Hid (∀ t j, q2 = .ok t j → XT w1.heap.size (w2.setCell ⟨R, 3, none⟩ (.int .i64 dd)) t (.pointer p2)) := fun t j h => (ht2 t j h).put (by omega) 3 _
  clear hf2 hm2 ht2 hm3
  go_wp2_with fail
  generalize w2.setCell ⟨R, 3, none⟩ (.int .i64 dd) = w3 at *
  refine (HWN.out w3 HM3.out).mono ?_
  rintro e w4 ⟨rfl, hf4, hm4⟩
  have HE : Hid (XR R T q l w (.returned (.pointer p2)) w4) := ⟨_, rfl, HF3.out.trans hf4, by rw [HQQ.out]; exact hm4, fun t jj h => by
    rw [HQQ.out] at h
    obtain ⟨a, h⟩ := Res.wn_ok h
    exact ((HT3.out t a h).fr hf4 (by omega)).mono hs1⟩
  clear hf4 hm4
  go_wp2_with fail
  go_ret
  exact HE.out

set_option maxRecDepth 100000 in
set_option maxHeartbeats 2000000 in
theorem rpart_minus (R : Nat) (T : ByteArray) (f j l : Nat) (w : World) (hP : PRT R T f) (hg : RgG w R T j l) (hk : (tok (by' T) j).kind = 17) (q : Res Tr) (hq : q = pPart (by' T) (f + 1) j l) (hro : q ≠ .out) :
    Calls Tryz.prog 99 #[.pointer (some ⟨R, 0, none⟩)] w (XR R T q l w) := by
  have htx := (tok_spl (by' T) j 17 (by decide) (by decide)).1 hk
  have hlt := hg.h.lt
  have c2 := hg.h.c2
  have c4 := hg.h.c4
  have t1 : ((bs (tok (by' T) j).text).toList == [40]) = false := by rw [bs_list, htx]; rfl
  have t2 : ((bs (tok (by' T) j).text).toList == [45]) = true := by rw [bs_list, htx]; rfl
  obtain ⟨q1, hq1⟩ : ∃ q1, q1 = pEnter (by' T) 17 j l := ⟨_, rfl⟩
  obtain ⟨q2, hq2⟩ : ∃ q2 : Res Tr, q2 = q1.bind fun _ a => pPart (by' T) f a (l + 1) := ⟨_, rfl⟩
  have hqq : q = q2.bind fun x a => .ok (.node 3 [] 0 0 [x]) a := by
    rw [hq, pPart, if_neg (by omega), if_neg (by omega), if_pos hk, hq2, hq1]
    cases pEnter (by' T) 17 j l <;> rfl
  have n2 : q2 ≠ .out := Res.out_bind (by rw [← hqq]; exact hro)
  have HDP := hid (rdeep_any R j l 17 T w hg hk)
  rw [← hq1] at HDP
  have HEX := hid (fun (W : World) (h : RgW W R T q1 (l + 1)) => hP _ q1 (l + 1) W h (by rw [← hq2]; exact n2))
  rw [← hq2] at HEX
  have HQQ := hid hqq
  generalize bs (tok (by' T) j).text = tx at *
  clear hP hg hk hq hro htx hq1 hq2 hqq n2
  go_enter Tryz.func99, Tryz.ntmps99
  go_wp2_with fail
  refine HDP.out.mono ?_
  rintro e w1 ⟨b, rfl, hf1, hm1⟩
  have HF1 := hid hf1
  have HM1 := hid hm1
  clear hf1 hm1 c2 c4
  go_wp2_with fail
  refine (HEX.out w1 HM1.out).mono ?_
  rintro e w2 ⟨p2, rfl, hf2, hm2, ht2⟩
  obtain ⟨d, r3, s3, hm3⟩ := hm2.back
  obtain ⟨dd, hdd⟩ : ∃ dd, IntKind.i64.wrap (d - 1) = dd := ⟨_, rfl⟩
  rw [hdd] at hm3
  obtain ⟨w3, hw3⟩ : ∃ w3, w2.setCell ⟨R, 3, none⟩ (.int .i64 dd) = w3 := ⟨_, rfl⟩
  have HF3 : Hid (Fr R w w3) := by unfold Hid; rw [← hw3]; exact (HF1.out.trans hf2).set 3 _
  rw [hw3] at hm3
  have HM3 := hid hm3
  have hs1 := HF1.out.size
  have HT3 : Hid (∀ t j, q2 = .ok t j → XT w1.heap.size w3 t (.pointer p2)) := fun t j h => by rw [← hw3]; exact (ht2 t j h).put (by omega) 3 _
  obtain ⟨V1, hV1⟩ : ∃ V1, w3.alloc (.cells #[.pointer p2] 40) = V1 := ⟨_, rfl⟩
  have hs2 : V1.heap.size = w3.heap.size + 1 := by rw [← hV1]; simp
  have b1 : Below w3.heap.size w3 V1 := by rw [← hV1]; exact (Below.refl _ _).alloc (Nat.le_refl _) _
  have n1 : V1.heap[w3.heap.size]? = some (.cells #[.pointer p2] 40 (0, 0)) := by rw [← hV1]; exact heap_alloc_new w3 _
  obtain ⟨V2, hV2⟩ : ∃ V2, V1.alloc (.cells #[.string ⟨#[110, 101, 103]⟩, .string ⟨#[]⟩, .int .i64 0, .int .i64 0, .slice (some ⟨w3.heap.size, 0, none⟩) 1 1] 97) = V2 := ⟨_, rfl⟩
  have b2 : Below V1.heap.size V1 V2 := by rw [← hV2]; exact (Below.refl _ _).alloc (Nat.le_refl _) _
  have m2 : V2.heap[V1.heap.size]? = some (.cells #[.string ⟨#[110, 101, 103]⟩, .string ⟨#[]⟩, .int .i64 0, .int .i64 0, .slice (some ⟨w3.heap.size, 0, none⟩) 1 1] 97 (0, 0)) := by rw [← hV2]; exact heap_alloc_new V1 _
  have b3 : Below w3.heap.size w3 V2 := b1.trans (b2.mono (by omega))
  have hs := HF3.out.size
  have HE : Hid (XR R T q l w (.returned (.pointer (some ⟨V1.heap.size, 0, none⟩))) V2) := ⟨_, rfl, HF3.out.more b3 hlt, by rw [HQQ.out]; exact (HM3.out.keep (b3.block _ HM3.out.lt)).map _, fun t jj h => by
    rw [HQQ.out] at h
    obtain ⟨x, a, h1, h⟩ := Res.bind_ok h
    injection h with h _
    subst h
    refine ⟨V1.heap.size, some ⟨w3.heap.size, 0, none⟩, 1, 0, rfl, (by show w.heap.size ≤ V1.heap.size; omega), m2, fun h => by omega, ⟨⟨_, _, rfl, hs, ?_, ((HT3.out _ _ h1).below b3).mono hs1⟩, trivial⟩⟩
    have := (b2.block w3.heap.size (by omega)).trans n1
    simp [World.cell?, this]⟩
  have HV1 := hid hV1
  clear hf2 hm2 ht2 hm3 b1 b2 b3 m2 n1 hs2 hs HT3 HM3 HF3
  go_wp2_with fail
  go_ret
  exact HE.out

set_option maxRecDepth 100000 in
set_option maxHeartbeats 2000000 in
theorem rpart_num (R : Nat) (T : ByteArray) (f j l : Nat) (w : World) (hg : RgG w R T j l) (c : UInt8) (t : List UInt8) (ht : (tok (by' T) j).text = c :: t) (hc : isDg c = true) (q : Res Tr) (hq : q = pPart (by' T) (f + 1) j l) :
    Calls Tryz.prog 99 #[.pointer (some ⟨R, 0, none⟩)] w (XR R T q l w) := by
  have hnl : isLt c = false := by
    unfold isDg at hc
    unfold isLt
    simp [UInt8.le_iff_toNat_le] at hc ⊢
    omega
  have hk2 : ¬ (tok (by' T) j).kind = 2 := fun h => by have := ((tok_name hg.ok ht).1 h).1; rw [hnl] at this; cases this
  have hk10 : ¬ (tok (by' T) j).kind = 10 := fun h => by
    have h1 := (tok_spl (by' T) j 10 (by decide) (by decide)).1 h
    rw [ht] at h1
    injection h1 with h1 _
    rw [h1] at hc
    exact absurd hc (by decide)
  have hk17 : ¬ (tok (by' T) j).kind = 17 := fun h => by
    have h1 := (tok_spl (by' T) j 17 (by decide) (by decide)).1 h
    rw [ht] at h1
    injection h1 with h1 _
    rw [h1] at hc
    exact absurd hc (by decide)
  rw [pPart, if_neg hk2, if_neg hk10, if_neg hk17] at hq
  have hlt := hg.h.lt
  have c2 := hg.h.c2
  have c4 := hg.h.c4
  have t1 : ((bs (tok (by' T) j).text).toList == [40]) = false := by rw [bs_list]; simp; exact fun e => hk10 ((tok_spl (by' T) j 10 (by decide) (by decide)).2 e)
  have t2 : ((bs (tok (by' T) j).text).toList == [45]) = false := by rw [bs_list]; simp; exact fun e => hk17 ((tok_spl (by' T) j 17 (by decide) (by decide)).2 e)
  have t3 : ((bs (tok (by' T) j).text).toList == []) = false := by rw [bs_list, ht]; rfl
  have h0 : 0 < (bs (tok (by' T) j).text).size := by rw [bs_size, ht]; simp
  have h00 : (0 : Int) < ((bs (tok (by' T) j).text).size : Int) := by omega
  have hc0 : (bs (tok (by' T) j).text)[0] = c := by rw [bs_get]; simp [ht]
  have HDG := hid (rdig_any c w)
  rw [hc] at HDG
  have HNU := hid (rnum_any R j l T w hg c t ht hc)
  have HON := hid (fun (W : World) (h : RgG W R T j l) => ron_any R j l T W h)
  have HQ := hid hq
  generalize bs (tok (by' T) j).text = tx at *
  clear hg ht hc hnl hk2 hk10 hk17 hq
  go_enter Tryz.func99, Tryz.ntmps99
  go_wp2_with fail
  refine HDG.out.mono ?_
  rintro e w1 ⟨rfl, rfl⟩
  go_wp2_with fail
  refine HNU.out.mono ?_
  rintro e w2 ⟨hf2, ⟨rfl, hg2, hn⟩ | ⟨rfl, e2, hfa, hn⟩⟩
  · have HF2 := hid hf2
    have HG2 := hid hg2
    have HQ2 := hid (HQ.out.trans hn)
    have e4 := hg2.h.c4
    clear hf2 hg2 hn c2 c4 HNU
    generalize numV (tok (by' T) j).text = N at *
    go_wp2_with fail
    refine (HON.out w2 HG2.out).mono ?_
    rintro e w3 ⟨rfl, hf3, hm3⟩
    obtain ⟨V, hV⟩ : ∃ V, w3.alloc (.cells #[.string ⟨#[110, 117, 109, 98, 101, 114]⟩, .string ⟨#[]⟩, .int .i64 (N : Int), .int .i64 0, .slice none 0 0] 97) = V := ⟨_, rfl⟩
    have b1 : Below w3.heap.size w3 V := by rw [← hV]; exact (Below.refl _ _).alloc (Nat.le_refl _) _
    have n1 : V.heap[w3.heap.size]? = some (.cells #[.string ⟨#[110, 117, 109, 98, 101, 114]⟩, .string ⟨#[]⟩, .int .i64 (N : Int), .int .i64 0, .slice none 0 0] 97 (0, 0)) := by rw [← hV]; exact heap_alloc_new w3 _
    have hF3 := HF2.out.trans hf3
    have HE : Hid (XR R T q l w1 (.returned (.pointer (some ⟨w3.heap.size, 0, none⟩))) V) := ⟨_, rfl, hF3.more b1 hlt, by rw [HQ2.out]; exact (hm3.keep (b1.block _ hm3.lt)).of rfl, fun t jj h => by
      rw [HQ2.out] at h
      injection h with h _
      subst h
      exact ⟨w3.heap.size, none, 0, 0, rfl, hF3.size, n1, fun h => by omega, trivial⟩⟩
    clear hf3 hm3 b1 n1 hF3 e4
    go_wp2_with fail
    go_ret
    exact HE.out
  · have HF2 := hid hf2
    have HQ2 := hid (HQ.out.trans hn)
    have HFA := hid hfa
    obtain ⟨he, at', tk, dp, hR⟩ := hfa
    have e4 := hR.c4
    have q4 : ((e2 : Int) == 0) = false := by simp; omega
    obtain ⟨V, hV⟩ : ∃ V, w2.alloc (.cells #[.string ⟨#[110, 117, 109, 98, 101, 114]⟩, .string ⟨#[]⟩, .int .i64 0, .int .i64 0, .slice none 0 0] 97) = V := ⟨_, rfl⟩
    have b1 : Below w2.heap.size w2 V := by rw [← hV]; exact (Below.refl _ _).alloc (Nat.le_refl _) _
    have HE : Hid (XR R T q l w1 (.returned (.pointer (some ⟨w2.heap.size, 0, none⟩))) V) := ⟨_, rfl, HF2.out.more b1 hlt, by rw [HQ2.out]; exact HFA.out.keep (b1.block _ hR.lt), fun t jj h => by rw [HQ2.out] at h; cases h⟩
    clear hf2 hn hR he b1 c2 c4 HNU
    go_wp2_with fail
    go_ret
    exact HE.out

set_option maxRecDepth 100000 in
set_option maxHeartbeats 4000000 in
theorem rpart_name (R : Nat) (T : ByteArray) (f j l : Nat) (w : World) (hE : ∀ g, g ≤ f → EXP R T g) (hg : RgG w R T j l) (hk10 : ¬ (tok (by' T) j).kind = 10) (hk17 : ¬ (tok (by' T) j).kind = 17) (hd : ∀ c t, (tok (by' T) j).text = c :: t → isDg c = false) (q : Res Tr) (hq : q = pPart (by' T) (f + 1) j l) (hro : q ≠ .out) :
    Calls Tryz.prog 99 #[.pointer (some ⟨R, 0, none⟩)] w (XR R T q l w) := by
  have hlt := hg.h.lt
  have c1 := hg.h.c1
  have c2 := hg.h.c2
  have c4 := hg.h.c4
  have t1 : ((bs (tok (by' T) j).text).toList == [40]) = false := by rw [bs_list]; simp; exact fun e => hk10 ((tok_spl (by' T) j 10 (by decide) (by decide)).2 e)
  have t2 : ((bs (tok (by' T) j).text).toList == [45]) = false := by rw [bs_list]; simp; exact fun e => hk17 ((tok_spl (by' T) j 17 (by decide) (by decide)).2 e)
  obtain ⟨q1, hq1⟩ : ∃ q1, q1 = pName (by' T) j := ⟨_, rfl⟩
  have hqq : q = q1.bind fun nm a1 => if (tok (by' T) a1).kind = 10 then (pList (by' T) f a1 l).bind fun xs a5 => .ok (.node 2 nm.1 nm.2 0 xs) a5 else .ok (.node 1 nm.1 nm.2 0 []) a1 := by
    by_cases h2 : (tok (by' T) j).kind = 2
    · rw [hq, pPart, if_pos h2, hq1]
    · rw [hq, pPart, if_neg h2, if_neg hk10, if_neg hk17, hq1, pName_not h2]
      refine (pNum_not fun h3 => ?_).trans rfl
      have h4 := tok_word (by' T) j (Or.inr h3)
      rw [h3] at h4
      cases htx : (tok (by' T) j).text with
      | nil => rw [htx] at h4; cases h4
      | cons c t =>
        rw [htx, wkd] at h4
        have := hd c t htx
        split at h4
        · exact absurd h4 (kwd_ne _).2.2.2
        · split at h4
          · cases h4
          · split at h4
            · rename_i hall
              rw [List.all_cons, this] at hall
              cases hall
            · cases h4
  obtain ⟨W0, hW0⟩ : ∃ W0, w.alloc (.cells #[.string ⟨#[110, 97, 109, 101]⟩, .string ⟨#[]⟩, .int .i64 0, .int .i64 ((tok (by' T) j).at' : Int), .slice none 0 0] 97) = W0 := ⟨_, rfl⟩
  have hb0 : Below w.heap.size w W0 := by rw [← hW0]; exact (Below.refl w.heap.size w).alloc (Nat.le_refl _) _
  have hg0 : RgG W0 R T j l := hg.keep (hb0.block _ hlt)
  have HX0 : Hid (LS R T w w.heap.size W0 (.ok () j : Res Unit) l ⟨#[110, 97, 109, 101]⟩ ⟨#[]⟩ ((tok (by' T) j).at' : Int) (.slice none 0 0)) := ⟨Fr.below hb0 (Nat.le_of_lt hlt), Or.inl hg0, by rw [← hW0]; exact heap_alloc_new w _, Nat.le_refl _, hlt⟩
  have HNM := hid (rname_any R l T (.ok () j : Res Unit) W0 (Or.inl hg0))
  have HNR : Hid (∀ en w', RgNm R T (.ok () j : Res Unit) l W0 en w' → ∃ v, en = .returned (.string v) ∧ Fr R W0 w' ∧ RgW w' R T q1 l ∧ ∀ x j, q1 = .ok x j → v = bs x.1) := fun en w' h => by rw [hq1]; exact h
  have HAT : Hid (∀ x a, q1 = .ok x a → ((tok (by' T) j).at' : Int) = (x.2 : Int)) := fun x a h => by
    rw [hq1] at h
    rw [(pName_at h).2]
  have HTX : Hid ((bs (tok (by' T) j).text).toList == [] ∨ ∃ c, ((bs (tok (by' T) j).text).toList == []) = false ∧ isDg c = false ∧ ∃ h : 0 < (bs (tok (by' T) j).text).size, (bs (tok (by' T) j).text)[0] = c) := by
    cases htx : (tok (by' T) j).text with
    | nil => exact Or.inl (by rw [bs_list]; rfl)
    | cons c t => exact Or.inr ⟨c, by rw [bs_list]; rfl, hd c t htx, by rw [bs_size]; simp, by rw [bs_get]; simp⟩
  have HQQ := hid hqq
  have HRO := hid hro
  have HEX := hid hE
  have hs10 := fun a => tok_spl (by' T) a 10 (by decide) (by decide)
  have HS10 := hid hs10
  obtain ⟨X, hX⟩ : ∃ X, X = w.heap.size := ⟨_, rfl⟩
  rw [← hX] at HX0
  have HXX := hid hX
  generalize bs (tok (by' T) j).text = tx at *
  generalize ((tok (by' T) j).at' : Int) = A at *
  have HDG := hid (fun (c : UInt8) => rdig_any c w)
  clear hg hd hk10 hk17 hq hq1 hqq hro hE hb0 hg0 hs10
  rcases HTX.out with ht | ⟨c, ht, hdc, hp0, hcc⟩
  case' inl => have t3 : (tx.toList == []) = true := ht
  case' inr => have h00 : (0 : Int) < (tx.size : Int) := by omega
  case' inl =>
    clear HTX ht
    go_enter Tryz.func99, Tryz.ntmps99
    go_wp2_with fail
  case' inr =>
    clear HTX
    go_enter Tryz.func99, Tryz.ntmps99
    go_wp2_with fail
    refine (HDG.out c).mono ?_
    rintro e w1 ⟨rfl, hw1⟩
    have hw2 := hw1.symm
    subst hw2
    rw [hdc]
    go_wp2_with fail
  all_goals
    rw [← hX]
    clear hW0 hX c1 c2 c4
    refine HNM.out.mono ?_
    intro e w3 he
    obtain ⟨v, rfl, hf3, hm3, hv3⟩ := HNR.out e w3 he
    have HX3 := hid (HX0.out.step hf3 hm3)
    have HV3 := hid hv3
    have x1 := HX3.out.c1
    have y1 := HX3.out.fz 1
    obtain ⟨W4, hW4⟩ : ∃ W4, w3.setCell ⟨X, 1, none⟩ (.string v) = W4 := ⟨_, rfl⟩
    have HX4 : Hid (LS R T w X W4 q1 l ⟨#[110, 97, 109, 101]⟩ v A (.slice none 0 0)) := by unfold Hid; rw [← hW4]; exact HX3.out.put1 v
    have HEN : Hid ((∀ nm a1, q1 = .ok nm a1 → ¬ (tok (by' T) a1).kind = 10) → XR R T q l w (.returned (.pointer (some ⟨X, 0, none⟩))) W4) := fun hno => by
      have hq : q = q1.bind fun nm a1 => .ok (.node 1 nm.1 nm.2 0 []) a1 := by
        rw [HQQ.out]
        cases hc : q1 with
        | out => rfl
        | bad e a => rfl
        | ok nm a1 =>
          show (if (tok (by' T) a1).kind = 10 then _ else _) = _
          rw [if_neg (hno nm a1 hc)]
          rfl
      refine ⟨_, rfl, HX4.out.fr, by rw [hq]; exact HX4.out.rm.map _, fun t jj h => ?_⟩
      rw [hq] at h
      obtain ⟨nm, a1, h1, h⟩ := Res.bind_ok h
      injection h with h _
      subst h
      refine ⟨X, none, 0, A, rfl, HX4.out.hX, ?_, fun _ => HAT.out _ _ h1, trivial⟩
      have := HX4.out.xb
      rw [HV3.out _ _ h1] at this
      exact this
    clear hf3 hm3 hv3 he
    rcases HX4.out.rm.cases with ⟨nm, a1, hr, hg4⟩ | ⟨e, a, hfa, hr⟩
    · have d4 := hg4.h.c4
      have d2 := hg4.h.c2
      by_cases hk : (tok (by' T) a1).kind = 10
      · have t10 : ((bs (tok (by' T) a1).text).toList == [40]) = true := by rw [bs_list, (HS10.out a1).1 hk]; rfl
        have hq := HQQ.out
        rw [hr] at hq
        have hq : q = (pList (by' T) f a1 l).bind fun xs a5 => .ok (.node 2 nm.1 nm.2 0 xs) a5 := by
          rw [hq]
          show (if (tok (by' T) a1).kind = 10 then _ else _) = _
          rw [if_pos hk]
        have hf1 : ∃ f', f = f' + 1 := by
          cases f with
          | zero => rw [pList] at hq; exact absurd hq HRO.out
          | succ f' => exact ⟨f', rfl⟩
        obtain ⟨f', hf'⟩ := hf1
        have HC := hid (rcall_any R X f' a1 l T ⟨#[110, 97, 109, 101]⟩ v A w W4 (fun g hg => HEX.out g (by omega)) (HX4.out.step (Fr.refl _ _) (Or.inl hg4)) hg4 hk (pList (by' T) f a1 l) (by rw [hf']) (Res.out_bind (by rw [← hq]; exact HRO.out)))
        have HQ := hid hq
        have HVN := hid (HV3.out _ _ hr)
        have HAN := hid (HAT.out _ _ hr)
        generalize bs (tok (by' T) a1).text = ty at *
        clear hr hg4 hk hq hf' HX3
        go_wp2_with fail
        refine HC.out.mono ?_
        rintro e w5 ⟨rfl, a, n, cc, hL5, hk5⟩
        have HE : Hid (XR R T q l w (.returned (.pointer (some ⟨X, 0, none⟩))) w5) := by
          refine ⟨_, rfl, hL5.fr, by rw [HQ.out]; exact hL5.rm.map _, fun t jj h => ?_⟩
          rw [HQ.out] at h
          obtain ⟨xs, a5, h1, h⟩ := Res.bind_ok h
          injection h with h _
          subst h
          obtain ⟨e1, e2⟩ := hk5 _ _ h1
          refine ⟨X, a, cc, A, rfl, hL5.hX, ?_, fun _ => HAN.out, e2⟩
          have := hL5.xb
          rw [HVN.out, e1] at this
          exact this
        clear hL5 hk5
        go_wp2_with fail
        go_ret
        exact HE.out
      · have t10 : ((bs (tok (by' T) a1).text).toList == [40]) = false := by rw [bs_list]; simp; exact fun e => hk ((HS10.out a1).2 e)
        have HE := hid (HEN.out (fun nm' a' h => by rw [hr] at h; injection h with _ h; subst h; exact hk))
        generalize bs (tok (by' T) a1).text = ty at *
        clear hr hg4 hk HX3
        go_wp2_with fail
        go_ret
        exact HE.out
    · have HE := hid (HEN.out (fun nm' a' h => by
        rcases hr with h1 | ⟨x', j', h1, h0, _⟩
        · rw [h1] at h; cases h
        · rw [h1] at h; injection h with _ h; subst h; omega))
      obtain ⟨he, at', tk, dp, hR⟩ := hfa
      have d4 := hR.c4
      have q4 : ((e : Int) == 0) = false := by simp; omega
      clear hr hR he HX3
      go_wp2_with fail
      go_ret
      exact HE.out
theorem rpart_any (R : Nat) (T : ByteArray) (f : Nat) (hE : ∀ g, g ≤ f → EXP R T g) (hP : PRT R T f) : PRT R T (f + 1) := fun α r l w hm hro => by
  rcases hm.cases with ⟨x, j, rfl, hg⟩ | ⟨e, a, hf, hr⟩
  · by_cases h10 : (tok (by' T) j).kind = 10
    · exact rpart_brack R T f j l w (hE f (Nat.le_refl _)) hg h10 _ rfl hro
    · by_cases h17 : (tok (by' T) j).kind = 17
      · exact rpart_minus R T f j l w hP hg h17 _ rfl hro
      · by_cases hd : ∃ c t, (tok (by' T) j).text = c :: t ∧ isDg c = true
        · obtain ⟨c, t, ht, hc⟩ := hd
          exact rpart_num R T f j l w hg c t ht hc _ rfl
        · refine rpart_name R T f j l w hE hg h10 h17 (fun c t ht => ?_) _ rfl hro
          cases hc : isDg c with
          | false => rfl
          | true => exact absurd ⟨c, t, ht, hc⟩ hd
  · refine rpart_bad R T l e a w hf _ ?_
    rcases hr with rfl | ⟨x, j, rfl, h0, rfl, rfl⟩
    · rfl
    · rcases pPart_zero (f := f + 1) (l := l) h0 with h | h
      · exact absurd h hro
      · exact h
theorem rexpr_none (R : Nat) (T : ByteArray) : EXP R T 0 := fun α r l w hm hro => by
  cases r with
  | out => exact hm.elim
  | bad e a => exact rexpr_bad R T l e a w hm _ rfl
  | ok x j => exact absurd (show pExpr (by' T) 0 j l = .out by rw [pExpr]) hro
theorem rpart_none (R : Nat) (T : ByteArray) : PRT R T 0 := fun α r l w hm hro => by
  cases r with
  | out => exact hm.elim
  | bad e a => exact rpart_bad R T l e a w hm _ rfl
  | ok x j => exact absurd (show pPart (by' T) 0 j l = .out by rw [pPart]) hro
theorem rproduct_none (R : Nat) (T : ByteArray) : PRD R T 0 := fun α r l w hm hro => by
  cases r with
  | out => exact hm.elim
  | bad e a => exact rproduct_any R T 0 (fun g hg => by rw [Nat.le_zero.1 hg]; exact rpart_none R T) α (.bad e a) l w hm (fun h => (nomatch h))
  | ok x j => exact absurd (show pProd (by' T) 0 j l = .out by rw [pProd]) hro
theorem rsum_none (R : Nat) (T : ByteArray) : SUM R T 0 := fun α r l w hm hro => by
  cases r with
  | out => exact hm.elim
  | bad e a => exact rsum_any R T 0 (fun g hg => by rw [Nat.le_zero.1 hg]; exact rproduct_none R T) α (.bad e a) l w hm (fun h => (nomatch h))
  | ok x j => exact absurd (show pSum (by' T) 0 j l = .out by rw [pSum]) hro
/-- expr, sum, product and part read as they should -/
theorem rgall_any (R : Nat) (T : ByteArray) : ∀ (f : Nat), EXP R T f ∧ SUM R T f ∧ PRD R T f ∧ PRT R T f := by
  intro f
  induction f using Nat.strongRecOn with
  | _ f ih =>
    cases f with
    | zero => exact ⟨rexpr_none R T, rsum_none R T, rproduct_none R T, rpart_none R T⟩
    | succ f =>
      exact ⟨rexpr_any R T f (ih f (by omega)).1 (ih f (by omega)).2.1, rsum_any R T f (fun g hg => (ih g (by omega)).2.2.1), rproduct_any R T f (fun g hg => (ih g (by omega)).2.2.2), rpart_any R T f (fun g hg => (ih g (by omega)).1) (ih f (by omega)).2.2.2⟩

end Go.Proofs.YthemehdcakimgaiGreatDoor
