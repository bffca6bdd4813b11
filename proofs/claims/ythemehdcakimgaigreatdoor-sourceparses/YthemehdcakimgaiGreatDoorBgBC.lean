/- The reference of programs as text: needs, choices and signs written. The reference of programs as text: names and numbers written. -/
import Derived.Test.YthemehdcakimgaiGreatDoorBgBB
namespace Go.Proofs.YthemehdcakimgaiGreatDoor
open Go.RowKit

set_option maxRecDepth 100000 in
set_option maxHeartbeats 4000000 in
theorem rinn_need (it : Nat → List UInt8) (Ctx : World → Prop) (B : Nat → Prop) (N : Nat) (_hit : ∀ n, n ≤ 9223372036854775807 → (it n).length ≤ 20) (_hCx : ∀ W W', Ctx W → Below W.heap.size W W' → Ctx W') (_hIt : ∀ (n : Nat) (W : World), n ≤ 9223372036854775807 → Ctx W → Calls Tryz.prog 64 #[.int .i64 (n : Int)] W fun e w' => e = .returned (.string (bs (it n))) ∧ Below W.heap.size W w') (_hN6 : N ≤ 999999) (_ih : INN it Ctx B N) (kd : Nat) (nm : List UInt8) (at' nn : Nat) (kids : List Tr) (x : Value) (w : World) (_hN : 1 + tszs kids ≤ N + 1) (hT : TW (.node kd nm at' nn kids)) (_hC : Ctx w) (hX : XTB B w (.node kd nm at' nn kids) x) (hkd : kd = 10) :
    Calls Tryz.prog 42 #[x] w fun e w' => e = .returned (.string (bs (inK it kd nm nn (inTs it kids)))) ∧ Below w.heap.size w w' := by
  obtain ⟨hsh, hTs⟩ := hT
  have hk12 := shp_lt hsh
  have HLD := hid (rholds_any B kd nm at' nn kids x w hk12 hX)
  obtain ⟨b, ax, cx, A, rfl, hb, hh, hA, hK⟩ := hX
  have q0 : ((bs (opS kd)).toList == [110, 117, 109, 98, 101, 114]) = decide (kd = 0) := by rw [bs_list]; exact op_number kd hk12
  rw [decide_eq_false (by omega)] at q0
  have q1 : ((bs (opS kd)).toList == [110, 97, 109, 101]) = decide (kd = 1) := by rw [bs_list]; exact op_name kd hk12
  rw [decide_eq_false (by omega)] at q1
  have q3 : ((bs (opS kd)).toList == [110, 101, 103]) = decide (kd = 3) := by rw [bs_list]; exact op_neg kd hk12
  rw [decide_eq_false (by omega)] at q3
  have q2 : ((bs (opS kd)).toList == [99, 97, 108, 108]) = decide (kd = 2) := by rw [bs_list]; exact op_call kd hk12
  rw [decide_eq_false (by omega)] at q2
  have q9 : ((bs (opS kd)).toList == [108, 101, 116]) = decide (kd = 9) := by rw [bs_list]; exact op_let kd hk12
  rw [decide_eq_false (by omega)] at q9
  have q10 : ((bs (opS kd)).toList == [110, 101, 101, 100]) = decide (kd = 10) := by rw [bs_list]; exact op_need kd hk12
  rw [decide_eq_true hkd] at q10
  have q11 : ((bs (opS kd)).toList == [105, 102]) = decide (kd = 11) := by rw [bs_list]; exact op_if kd hk12
  rw [decide_eq_false (by omega)] at q11
  have q8 : ((bs (opS kd)).toList == [61, 61]) = decide (kd = 8) := by rw [bs_list]; exact op_eq kd hk12
  rw [decide_eq_false (by omega)] at q8
  have HXB : Hid (∀ (W : World), Below w.heap.size w W → W.heap[b]? = some (.cells #[.string (bs (opS kd)), .string (bs nm), .int .i64 (nn : Int), .int .i64 A, .slice ax kids.length cx] 97 (0, 0))) := fun W hW => (hW.block b (Array.getElem?_eq_some_iff.1 hh).1).trans hh
  have HSH : Hid (∀ (W : World), Below w.heap.size w W → ∀ (i least : Nat) (t : Tr), kids[i]? = some t → ∃ g vb, ax = some ⟨g, 0, none⟩ ∧ W.cell? ⟨g, i, none⟩ = some (.pointer (some ⟨vb, 0, none⟩)) ∧ Calls Tryz.prog 22 #[.pointer (some ⟨vb, 0, none⟩), .int .i64 (least : Int)] W fun e w' => e = .returned (.string (bs (kt (inTs it kids) i least))) ∧ Below W.heap.size W w') := fun W hW i least t ht => by
    obtain ⟨g, v, h1, h2, h5, h6⟩ := XTBs_at hK ht
    obtain ⟨vb, rfl⟩ := h6.form
    rw [Nat.zero_add] at h5
    have hkl := kid_lt kids i t ht
    have hTt := hTs.at ht
    have hl := inT_len it _hit t hTt
    refine ⟨g, vb, h1, (hW.cell (p := ⟨g, i, none⟩) (World.block_lt_of_cell? _ _ h5)).trans h5, ?_⟩
    rw [kt_at it ht]
    exact rshown_of it Ctx B N _ih t _ W least (by omega) hTt (_hCx _ _ _hC hW) (XTB.keep (fun b hB hl => ⟨hB, hW.block b hl⟩) _ _ h6) (by omega)
  have HKL : Hid (∀ (i least : Nat), (bs (kt (inTs it kids) i least)).size ≤ 50000000) := fun i least => by
    rw [bs_size]
    cases hi : kids[i]? with
    | none => unfold kt; rw [inTs_at, hi]; simp
    | some t =>
      rw [kt_at it hi]
      have h1 := par_len (hld (knd t)) least (inT it t)
      have h2 := inT_len it _hit t (hTs.at hi)
      have h3 := kid_lt kids i t hi
      omega
  have hns : (bs nm).size ≤ 16 := by
    rw [bs_size]
    rcases hsh with h | h | h | h | h | h | h
    · rw [h.2.1]; simp
    · exact h.2.1.2.1
    · exact h.2.1.2.1
    · rw [h.2.1]; simp
    · rw [h.2.2.1]; simp
    · exact h.2.1.2.1
    · rw [h.2.2.1]; simp
  have hos : (bs (opS kd)).size ≤ 6 := by
    rw [bs_size]
    have : ∀ k, k < 12 → (opS k).length ≤ 6 := by decide
    exact this kd hk12
  have HOP : Hid (bs (opS kd) = bs (opS kd)) := rfl
  obtain ⟨t0, t1, t2, hkids⟩ : ∃ t0 t1 t2, kids = [t0, t1, t2] := by
    have hm : kids.length = 3 := by rcases hsh with h | h | h | h | h | h | h <;> omega
    match kids, hm with
    | [t0, t1, t2], _ => exact ⟨t0, t1, t2, rfl⟩
  have hkl : kids.length = 3 := by rw [hkids]; rfl
  have HT0 : Hid (kids[0]? = some t0) := by rw [hkids]; exact rfl
  have HT1 : Hid (kids[1]? = some t1) := by rw [hkids]; exact rfl
  have HT2 : Hid (kids[2]? = some t2) := by rw [hkids]; exact rfl
  rw [hkl] at HXB
  have HE : Hid (bs (inK it kd nm nn (inTs it kids)) = (⟨#[110, 101, 101, 100, 32]⟩ : ByteArray) ++ bs (kt (inTs it kids) 0 2) ++ (⟨#[32, 61, 61, 32]⟩ : ByteArray) ++ bs (kt (inTs it kids) 1 2) ++ (⟨#[59, 32]⟩ : ByteArray) ++ bs (kt (inTs it kids) 2 0)) := by
    unfold Hid inK
    rw [if_neg (by omega), if_neg (by omega), if_neg (by omega), if_neg (by omega), if_neg (by omega), if_pos hkd]
    simp only [← bs_app]
    rfl
  have hz0 := HKL.out 0 (2)
  have hz1 := HKL.out 1 (2)
  have hz2 := HKL.out 2 (0)
  generalize bs (inK it kd nm nn (inTs it kids)) = RES at *
  generalize hS0 : bs (kt (inTs it kids) 0 (2)) = S0 at HE hz0
  generalize hS1 : bs (kt (inTs it kids) 1 (2)) = S1 at HE hz1
  generalize hS2 : bs (kt (inTs it kids) 2 (0)) = S2 at HE hz2
  have HB0 : Hid (Below w.heap.size w w) := Below.refl _ _
  have e0 : w.cell? ⟨b, 0, none⟩ = some (.string (bs (opS kd))) := by simp [World.cell?, hh]
  have e1 : w.cell? ⟨b, 1, none⟩ = some (.string (bs nm)) := by simp [World.cell?, hh]
  generalize bs (opS kd) = op at *
  generalize bs nm = ns at *
  have z1 : ¬ 9223372036854775807 < 5 + S0.size := by omega
  have z2 : ¬ 9223372036854775807 < 5 + S0.size + 4 := by omega
  have z3 : ¬ 9223372036854775807 < 5 + S0.size + 4 + S1.size := by omega
  have z4 : ¬ 9223372036854775807 < 5 + S0.size + 4 + S1.size + 2 := by omega
  have z5 : ¬ 9223372036854775807 < 5 + S0.size + 4 + S1.size + 2 + S2.size := by omega
  clear hh hK hTs hA hb hsh HKL hns hos hk12 _ih _hIt _hCx _hit _hN _hC hz0 hz1 hz2
  go_enter Tryz.func42, Tryz.ntmps42
  go_wp2_with fail
  refine HLD.out.mono ?_
  rintro e w9 ⟨rfl, hw⟩
  have hw8 := hw.symm
  subst hw8
  obtain ⟨g, vb, hax, hcg, HS⟩ := HSH.out w HB0.out 0 (2) t0 HT0.out
  have hhx := HXB.out w HB0.out
  rw [hax] at hhx
  have f4 : World.cell? w ⟨b, 4, none⟩ = some (.slice (some ⟨g, 0, none⟩) 3 cx) := by simp [World.cell?, hhx]
  rw [hS0] at HS
  replace HS := hid HS
  clear hax hhx
  go_wp2_with fail
  refine HS.out.mono ?_
  rintro e w1 ⟨rfl, hb'⟩
  have HB1 := hid (HB0.out.trans (hb'.mono HB0.out.size))
  clear hb' HS f4 hcg
  obtain ⟨g, vb, hax, hcg, HS⟩ := HSH.out w1 HB1.out 1 (2) t1 HT1.out
  have hhx := HXB.out w1 HB1.out
  rw [hax] at hhx
  have f4 : World.cell? w1 ⟨b, 4, none⟩ = some (.slice (some ⟨g, 0, none⟩) 3 cx) := by simp [World.cell?, hhx]
  rw [hS1] at HS
  replace HS := hid HS
  clear hax hhx
  go_wp2_with fail
  refine HS.out.mono ?_
  rintro e w2 ⟨rfl, hb'⟩
  have HB2 := hid (HB1.out.trans (hb'.mono HB1.out.size))
  clear hb' HS f4 hcg
  obtain ⟨g, vb, hax, hcg, HS⟩ := HSH.out w2 HB2.out 2 (0) t2 HT2.out
  have hhx := HXB.out w2 HB2.out
  rw [hax] at hhx
  have f4 : World.cell? w2 ⟨b, 4, none⟩ = some (.slice (some ⟨g, 0, none⟩) 3 cx) := by simp [World.cell?, hhx]
  rw [hS2] at HS
  replace HS := hid HS
  clear hax hhx
  go_wp2_with fail
  refine HS.out.mono ?_
  rintro e w3 ⟨rfl, hb'⟩
  have HB3 := hid (HB2.out.trans (hb'.mono HB2.out.size))
  clear hb' HS f4 hcg
  go_wp2_with fail
  go_ret
  exact ⟨by rw [HE.out]; rfl, HB3.out⟩

set_option maxRecDepth 100000 in
set_option maxHeartbeats 4000000 in
theorem rinn_if (it : Nat → List UInt8) (Ctx : World → Prop) (B : Nat → Prop) (N : Nat) (_hit : ∀ n, n ≤ 9223372036854775807 → (it n).length ≤ 20) (_hCx : ∀ W W', Ctx W → Below W.heap.size W W' → Ctx W') (_hIt : ∀ (n : Nat) (W : World), n ≤ 9223372036854775807 → Ctx W → Calls Tryz.prog 64 #[.int .i64 (n : Int)] W fun e w' => e = .returned (.string (bs (it n))) ∧ Below W.heap.size W w') (_hN6 : N ≤ 999999) (_ih : INN it Ctx B N) (kd : Nat) (nm : List UInt8) (at' nn : Nat) (kids : List Tr) (x : Value) (w : World) (_hN : 1 + tszs kids ≤ N + 1) (hT : TW (.node kd nm at' nn kids)) (_hC : Ctx w) (hX : XTB B w (.node kd nm at' nn kids) x) (hkd : kd = 11) :
    Calls Tryz.prog 42 #[x] w fun e w' => e = .returned (.string (bs (inK it kd nm nn (inTs it kids)))) ∧ Below w.heap.size w w' := by
  obtain ⟨hsh, hTs⟩ := hT
  have hk12 := shp_lt hsh
  have HLD := hid (rholds_any B kd nm at' nn kids x w hk12 hX)
  obtain ⟨b, ax, cx, A, rfl, hb, hh, hA, hK⟩ := hX
  have q0 : ((bs (opS kd)).toList == [110, 117, 109, 98, 101, 114]) = decide (kd = 0) := by rw [bs_list]; exact op_number kd hk12
  rw [decide_eq_false (by omega)] at q0
  have q1 : ((bs (opS kd)).toList == [110, 97, 109, 101]) = decide (kd = 1) := by rw [bs_list]; exact op_name kd hk12
  rw [decide_eq_false (by omega)] at q1
  have q3 : ((bs (opS kd)).toList == [110, 101, 103]) = decide (kd = 3) := by rw [bs_list]; exact op_neg kd hk12
  rw [decide_eq_false (by omega)] at q3
  have q2 : ((bs (opS kd)).toList == [99, 97, 108, 108]) = decide (kd = 2) := by rw [bs_list]; exact op_call kd hk12
  rw [decide_eq_false (by omega)] at q2
  have q9 : ((bs (opS kd)).toList == [108, 101, 116]) = decide (kd = 9) := by rw [bs_list]; exact op_let kd hk12
  rw [decide_eq_false (by omega)] at q9
  have q10 : ((bs (opS kd)).toList == [110, 101, 101, 100]) = decide (kd = 10) := by rw [bs_list]; exact op_need kd hk12
  rw [decide_eq_false (by omega)] at q10
  have q11 : ((bs (opS kd)).toList == [105, 102]) = decide (kd = 11) := by rw [bs_list]; exact op_if kd hk12
  rw [decide_eq_true hkd] at q11
  have q8 : ((bs (opS kd)).toList == [61, 61]) = decide (kd = 8) := by rw [bs_list]; exact op_eq kd hk12
  rw [decide_eq_false (by omega)] at q8
  have HXB : Hid (∀ (W : World), Below w.heap.size w W → W.heap[b]? = some (.cells #[.string (bs (opS kd)), .string (bs nm), .int .i64 (nn : Int), .int .i64 A, .slice ax kids.length cx] 97 (0, 0))) := fun W hW => (hW.block b (Array.getElem?_eq_some_iff.1 hh).1).trans hh
  have HSH : Hid (∀ (W : World), Below w.heap.size w W → ∀ (i least : Nat) (t : Tr), kids[i]? = some t → ∃ g vb, ax = some ⟨g, 0, none⟩ ∧ W.cell? ⟨g, i, none⟩ = some (.pointer (some ⟨vb, 0, none⟩)) ∧ Calls Tryz.prog 22 #[.pointer (some ⟨vb, 0, none⟩), .int .i64 (least : Int)] W fun e w' => e = .returned (.string (bs (kt (inTs it kids) i least))) ∧ Below W.heap.size W w') := fun W hW i least t ht => by
    obtain ⟨g, v, h1, h2, h5, h6⟩ := XTBs_at hK ht
    obtain ⟨vb, rfl⟩ := h6.form
    rw [Nat.zero_add] at h5
    have hkl := kid_lt kids i t ht
    have hTt := hTs.at ht
    have hl := inT_len it _hit t hTt
    refine ⟨g, vb, h1, (hW.cell (p := ⟨g, i, none⟩) (World.block_lt_of_cell? _ _ h5)).trans h5, ?_⟩
    rw [kt_at it ht]
    exact rshown_of it Ctx B N _ih t _ W least (by omega) hTt (_hCx _ _ _hC hW) (XTB.keep (fun b hB hl => ⟨hB, hW.block b hl⟩) _ _ h6) (by omega)
  have HKL : Hid (∀ (i least : Nat), (bs (kt (inTs it kids) i least)).size ≤ 50000000) := fun i least => by
    rw [bs_size]
    cases hi : kids[i]? with
    | none => unfold kt; rw [inTs_at, hi]; simp
    | some t =>
      rw [kt_at it hi]
      have h1 := par_len (hld (knd t)) least (inT it t)
      have h2 := inT_len it _hit t (hTs.at hi)
      have h3 := kid_lt kids i t hi
      omega
  have hns : (bs nm).size ≤ 16 := by
    rw [bs_size]
    rcases hsh with h | h | h | h | h | h | h
    · rw [h.2.1]; simp
    · exact h.2.1.2.1
    · exact h.2.1.2.1
    · rw [h.2.1]; simp
    · rw [h.2.2.1]; simp
    · exact h.2.1.2.1
    · rw [h.2.2.1]; simp
  have hos : (bs (opS kd)).size ≤ 6 := by
    rw [bs_size]
    have : ∀ k, k < 12 → (opS k).length ≤ 6 := by decide
    exact this kd hk12
  have HOP : Hid (bs (opS kd) = bs (opS kd)) := rfl
  obtain ⟨t0, t1, t2, hkids⟩ : ∃ t0 t1 t2, kids = [t0, t1, t2] := by
    have hm : kids.length = 3 := by rcases hsh with h | h | h | h | h | h | h <;> omega
    match kids, hm with
    | [t0, t1, t2], _ => exact ⟨t0, t1, t2, rfl⟩
  have hkl : kids.length = 3 := by rw [hkids]; rfl
  have HT0 : Hid (kids[0]? = some t0) := by rw [hkids]; exact rfl
  have HT1 : Hid (kids[1]? = some t1) := by rw [hkids]; exact rfl
  have HT2 : Hid (kids[2]? = some t2) := by rw [hkids]; exact rfl
  rw [hkl] at HXB
  have HE : Hid (bs (inK it kd nm nn (inTs it kids)) = (⟨#[105, 102, 32]⟩ : ByteArray) ++ bs (kt (inTs it kids) 0 0) ++ (⟨#[32, 116, 104, 101, 110, 32]⟩ : ByteArray) ++ bs (kt (inTs it kids) 1 0) ++ (⟨#[32, 101, 108, 115, 101, 32]⟩ : ByteArray) ++ bs (kt (inTs it kids) 2 0)) := by
    unfold Hid inK
    rw [if_neg (by omega), if_neg (by omega), if_neg (by omega), if_neg (by omega), if_neg (by omega), if_neg (by omega), if_pos hkd]
    simp only [← bs_app]
    rfl
  have hz0 := HKL.out 0 (0)
  have hz1 := HKL.out 1 (0)
  have hz2 := HKL.out 2 (0)
  generalize bs (inK it kd nm nn (inTs it kids)) = RES at *
  generalize hS0 : bs (kt (inTs it kids) 0 (0)) = S0 at HE hz0
  generalize hS1 : bs (kt (inTs it kids) 1 (0)) = S1 at HE hz1
  generalize hS2 : bs (kt (inTs it kids) 2 (0)) = S2 at HE hz2
  have HB0 : Hid (Below w.heap.size w w) := Below.refl _ _
  have e0 : w.cell? ⟨b, 0, none⟩ = some (.string (bs (opS kd))) := by simp [World.cell?, hh]
  have e1 : w.cell? ⟨b, 1, none⟩ = some (.string (bs nm)) := by simp [World.cell?, hh]
  generalize bs (opS kd) = op at *
  generalize bs nm = ns at *
  have z1 : ¬ 9223372036854775807 < 3 + S0.size := by omega
  have z2 : ¬ 9223372036854775807 < 3 + S0.size + 6 := by omega
  have z3 : ¬ 9223372036854775807 < 3 + S0.size + 6 + S1.size := by omega
  have z4 : ¬ 9223372036854775807 < 3 + S0.size + 6 + S1.size + 6 := by omega
  have z5 : ¬ 9223372036854775807 < 3 + S0.size + 6 + S1.size + 6 + S2.size := by omega
  clear hh hK hTs hA hb hsh HKL hns hos hk12 _ih _hIt _hCx _hit _hN _hC hz0 hz1 hz2
  go_enter Tryz.func42, Tryz.ntmps42
  go_wp2_with fail
  refine HLD.out.mono ?_
  rintro e w9 ⟨rfl, hw⟩
  have hw8 := hw.symm
  subst hw8
  obtain ⟨g, vb, hax, hcg, HS⟩ := HSH.out w HB0.out 0 (0) t0 HT0.out
  have hhx := HXB.out w HB0.out
  rw [hax] at hhx
  have f4 : World.cell? w ⟨b, 4, none⟩ = some (.slice (some ⟨g, 0, none⟩) 3 cx) := by simp [World.cell?, hhx]
  rw [hS0] at HS
  replace HS := hid HS
  clear hax hhx
  go_wp2_with fail
  refine HS.out.mono ?_
  rintro e w1 ⟨rfl, hb'⟩
  have HB1 := hid (HB0.out.trans (hb'.mono HB0.out.size))
  clear hb' HS f4 hcg
  obtain ⟨g, vb, hax, hcg, HS⟩ := HSH.out w1 HB1.out 1 (0) t1 HT1.out
  have hhx := HXB.out w1 HB1.out
  rw [hax] at hhx
  have f4 : World.cell? w1 ⟨b, 4, none⟩ = some (.slice (some ⟨g, 0, none⟩) 3 cx) := by simp [World.cell?, hhx]
  rw [hS1] at HS
  replace HS := hid HS
  clear hax hhx
  go_wp2_with fail
  refine HS.out.mono ?_
  rintro e w2 ⟨rfl, hb'⟩
  have HB2 := hid (HB1.out.trans (hb'.mono HB1.out.size))
  clear hb' HS f4 hcg
  obtain ⟨g, vb, hax, hcg, HS⟩ := HSH.out w2 HB2.out 2 (0) t2 HT2.out
  have hhx := HXB.out w2 HB2.out
  rw [hax] at hhx
  have f4 : World.cell? w2 ⟨b, 4, none⟩ = some (.slice (some ⟨g, 0, none⟩) 3 cx) := by simp [World.cell?, hhx]
  rw [hS2] at HS
  replace HS := hid HS
  clear hax hhx
  go_wp2_with fail
  refine HS.out.mono ?_
  rintro e w3 ⟨rfl, hb'⟩
  have HB3 := hid (HB2.out.trans (hb'.mono HB2.out.size))
  clear hb' HS f4 hcg
  go_wp2_with fail
  go_ret
  exact ⟨by rw [HE.out]; rfl, HB3.out⟩

set_option maxRecDepth 100000 in
set_option maxHeartbeats 4000000 in
theorem rinn_sign (it : Nat → List UInt8) (Ctx : World → Prop) (B : Nat → Prop) (N : Nat) (_hit : ∀ n, n ≤ 9223372036854775807 → (it n).length ≤ 20) (_hCx : ∀ W W', Ctx W → Below W.heap.size W W' → Ctx W') (_hIt : ∀ (n : Nat) (W : World), n ≤ 9223372036854775807 → Ctx W → Calls Tryz.prog 64 #[.int .i64 (n : Int)] W fun e w' => e = .returned (.string (bs (it n))) ∧ Below W.heap.size W w') (_hN6 : N ≤ 999999) (_ih : INN it Ctx B N) (kd : Nat) (nm : List UInt8) (at' nn : Nat) (kids : List Tr) (x : Value) (w : World) (_hN : 1 + tszs kids ≤ N + 1) (hT : TW (.node kd nm at' nn kids)) (_hC : Ctx w) (hX : XTB B w (.node kd nm at' nn kids) x) (hkd : 4 ≤ kd ∧ kd ≤ 7) :
    Calls Tryz.prog 42 #[x] w fun e w' => e = .returned (.string (bs (inK it kd nm nn (inTs it kids)))) ∧ Below w.heap.size w w' := by
  obtain ⟨hsh, hTs⟩ := hT
  have hk12 := shp_lt hsh
  have HLD := hid (rholds_any B kd nm at' nn kids x w hk12 hX)
  obtain ⟨b, ax, cx, A, rfl, hb, hh, hA, hK⟩ := hX
  have q0 : ((bs (opS kd)).toList == [110, 117, 109, 98, 101, 114]) = decide (kd = 0) := by rw [bs_list]; exact op_number kd hk12
  rw [decide_eq_false (by omega)] at q0
  have q1 : ((bs (opS kd)).toList == [110, 97, 109, 101]) = decide (kd = 1) := by rw [bs_list]; exact op_name kd hk12
  rw [decide_eq_false (by omega)] at q1
  have q3 : ((bs (opS kd)).toList == [110, 101, 103]) = decide (kd = 3) := by rw [bs_list]; exact op_neg kd hk12
  rw [decide_eq_false (by omega)] at q3
  have q2 : ((bs (opS kd)).toList == [99, 97, 108, 108]) = decide (kd = 2) := by rw [bs_list]; exact op_call kd hk12
  rw [decide_eq_false (by omega)] at q2
  have q9 : ((bs (opS kd)).toList == [108, 101, 116]) = decide (kd = 9) := by rw [bs_list]; exact op_let kd hk12
  rw [decide_eq_false (by omega)] at q9
  have q10 : ((bs (opS kd)).toList == [110, 101, 101, 100]) = decide (kd = 10) := by rw [bs_list]; exact op_need kd hk12
  rw [decide_eq_false (by omega)] at q10
  have q11 : ((bs (opS kd)).toList == [105, 102]) = decide (kd = 11) := by rw [bs_list]; exact op_if kd hk12
  rw [decide_eq_false (by omega)] at q11
  have q8 : ((bs (opS kd)).toList == [61, 61]) = decide (kd = 8) := by rw [bs_list]; exact op_eq kd hk12
  rw [decide_eq_false (by omega)] at q8
  have HXB : Hid (∀ (W : World), Below w.heap.size w W → W.heap[b]? = some (.cells #[.string (bs (opS kd)), .string (bs nm), .int .i64 (nn : Int), .int .i64 A, .slice ax kids.length cx] 97 (0, 0))) := fun W hW => (hW.block b (Array.getElem?_eq_some_iff.1 hh).1).trans hh
  have HSH : Hid (∀ (W : World), Below w.heap.size w W → ∀ (i least : Nat) (t : Tr), kids[i]? = some t → ∃ g vb, ax = some ⟨g, 0, none⟩ ∧ W.cell? ⟨g, i, none⟩ = some (.pointer (some ⟨vb, 0, none⟩)) ∧ Calls Tryz.prog 22 #[.pointer (some ⟨vb, 0, none⟩), .int .i64 (least : Int)] W fun e w' => e = .returned (.string (bs (kt (inTs it kids) i least))) ∧ Below W.heap.size W w') := fun W hW i least t ht => by
    obtain ⟨g, v, h1, h2, h5, h6⟩ := XTBs_at hK ht
    obtain ⟨vb, rfl⟩ := h6.form
    rw [Nat.zero_add] at h5
    have hkl := kid_lt kids i t ht
    have hTt := hTs.at ht
    have hl := inT_len it _hit t hTt
    refine ⟨g, vb, h1, (hW.cell (p := ⟨g, i, none⟩) (World.block_lt_of_cell? _ _ h5)).trans h5, ?_⟩
    rw [kt_at it ht]
    exact rshown_of it Ctx B N _ih t _ W least (by omega) hTt (_hCx _ _ _hC hW) (XTB.keep (fun b hB hl => ⟨hB, hW.block b hl⟩) _ _ h6) (by omega)
  have HKL : Hid (∀ (i least : Nat), (bs (kt (inTs it kids) i least)).size ≤ 50000000) := fun i least => by
    rw [bs_size]
    cases hi : kids[i]? with
    | none => unfold kt; rw [inTs_at, hi]; simp
    | some t =>
      rw [kt_at it hi]
      have h1 := par_len (hld (knd t)) least (inT it t)
      have h2 := inT_len it _hit t (hTs.at hi)
      have h3 := kid_lt kids i t hi
      omega
  have hns : (bs nm).size ≤ 16 := by
    rw [bs_size]
    rcases hsh with h | h | h | h | h | h | h
    · rw [h.2.1]; simp
    · exact h.2.1.2.1
    · exact h.2.1.2.1
    · rw [h.2.1]; simp
    · rw [h.2.2.1]; simp
    · exact h.2.1.2.1
    · rw [h.2.2.1]; simp
  have hos : (bs (opS kd)).size ≤ 6 := by
    rw [bs_size]
    have : ∀ k, k < 12 → (opS k).length ≤ 6 := by decide
    exact this kd hk12
  have HOP : Hid (bs (opS kd) = bs (opS kd)) := rfl
  obtain ⟨t0, t1, hkids⟩ : ∃ t0 t1, kids = [t0, t1] := by
    have hm : kids.length = 2 := by rcases hsh with h | h | h | h | h | h | h <;> omega
    match kids, hm with
    | [t0, t1], _ => exact ⟨t0, t1, rfl⟩
  have hkl : kids.length = 2 := by rw [hkids]; rfl
  have HT0 : Hid (kids[0]? = some t0) := by rw [hkids]; exact rfl
  have HT1 : Hid (kids[1]? = some t1) := by rw [hkids]; exact rfl
  rw [hkl] at HXB
  have HE : Hid (bs (inK it kd nm nn (inTs it kids)) = bs (kt (inTs it kids) 0 (hld kd)) ++ (⟨#[32]⟩ : ByteArray) ++ bs (opS kd) ++ (⟨#[32]⟩ : ByteArray) ++ bs (kt (inTs it kids) 1 (hld kd + 1))) := by
    unfold Hid inK
    rw [if_neg (by omega), if_neg (by omega), if_neg (by omega), if_neg (by omega), if_neg (by omega), if_neg (by omega), if_neg (by omega), if_neg (by omega)]
    simp only [← bs_app]
    rfl
  have hz0 := HKL.out 0 (hld kd)
  have hz1 := HKL.out 1 (hld kd + 1)
  generalize bs (inK it kd nm nn (inTs it kids)) = RES at *
  generalize hS0 : bs (kt (inTs it kids) 0 (hld kd)) = S0 at HE hz0
  generalize hS1 : bs (kt (inTs it kids) 1 (hld kd + 1)) = S1 at HE hz1
  have HB0 : Hid (Below w.heap.size w w) := Below.refl _ _
  have e0 : w.cell? ⟨b, 0, none⟩ = some (.string (bs (opS kd))) := by simp [World.cell?, hh]
  have e1 : w.cell? ⟨b, 1, none⟩ = some (.string (bs nm)) := by simp [World.cell?, hh]
  generalize bs (opS kd) = op at *
  generalize bs nm = ns at *
  have z1 : ¬ 9223372036854775807 < S0.size + 1 := by omega
  have z2 : ¬ 9223372036854775807 < S0.size + 1 + op.size := by omega
  have z3 : ¬ 9223372036854775807 < S0.size + 1 + op.size + 1 := by omega
  have z4 : ¬ 9223372036854775807 < S0.size + 1 + op.size + 1 + S1.size := by omega
  have hh4 : hld kd ≤ 4 := by unfold hld; repeat' split
                              all_goals omega
  have hwh : IntKind.i64.wrap ((hld kd : Int) + 1) = ((hld kd + 1 : Nat) : Int) := by rw [IntKind.wrap_i64]; omega
  generalize hld kd = h at *
  clear hh hK hTs hA hb hsh HKL hns hos hk12 _ih _hIt _hCx _hit _hN _hC hz0 hz1
  go_enter Tryz.func42, Tryz.ntmps42
  go_wp2_with fail
  refine HLD.out.mono ?_
  rintro e w9 ⟨rfl, hw⟩
  have hw8 := hw.symm
  subst hw8
  obtain ⟨g, vb, hax, hcg, HS⟩ := HSH.out w HB0.out 0 h t0 HT0.out
  have hhx := HXB.out w HB0.out
  rw [hax] at hhx
  have f4 : World.cell? w ⟨b, 4, none⟩ = some (.slice (some ⟨g, 0, none⟩) 2 cx) := by simp [World.cell?, hhx]
  rw [hS0] at HS
  replace HS := hid HS
  clear hax hhx
  go_wp2_with fail
  refine HS.out.mono ?_
  rintro e w1 ⟨rfl, hb'⟩
  have HB1 := hid (HB0.out.trans (hb'.mono HB0.out.size))
  clear hb' HS f4 hcg
  obtain ⟨g, vb, hax, hcg, HS⟩ := HSH.out w1 HB1.out 1 (h + 1) t1 HT1.out
  have hhx := HXB.out w1 HB1.out
  rw [hax] at hhx
  have f4 : World.cell? w1 ⟨b, 4, none⟩ = some (.slice (some ⟨g, 0, none⟩) 2 cx) := by simp [World.cell?, hhx]
  rw [hS1] at HS
  replace HS := hid HS
  clear hax hhx
  go_wp2_with fail
  refine HS.out.mono ?_
  rintro e w2 ⟨rfl, hb'⟩
  have HB2 := hid (HB1.out.trans (hb'.mono HB1.out.size))
  clear hb' HS f4 hcg
  have hhz := HXB.out w2 HB2.out
  have y0 : World.cell? w2 ⟨b, 0, none⟩ = some (.string op) := by simp [World.cell?, hhz]
  clear hhz
  go_wp2_with fail
  go_ret
  exact ⟨by rw [HE.out]; rfl, HB2.out⟩

end Go.Proofs.YthemehdcakimgaiGreatDoor

namespace Go.Proofs.YthemehdcakimgaiGreatDoor
open Go.RowKit

set_option maxRecDepth 100000 in
set_option maxHeartbeats 4000000 in
theorem rinn_name (it : Nat → List UInt8) (Ctx : World → Prop) (B : Nat → Prop) (N : Nat) (_hit : ∀ n, n ≤ 9223372036854775807 → (it n).length ≤ 20) (_hCx : ∀ W W', Ctx W → Below W.heap.size W W' → Ctx W') (_hIt : ∀ (n : Nat) (W : World), n ≤ 9223372036854775807 → Ctx W → Calls Tryz.prog 64 #[.int .i64 (n : Int)] W fun e w' => e = .returned (.string (bs (it n))) ∧ Below W.heap.size W w') (_hN6 : N ≤ 999999) (_ih : INN it Ctx B N) (kd : Nat) (nm : List UInt8) (at' nn : Nat) (kids : List Tr) (x : Value) (w : World) (_hN : 1 + tszs kids ≤ N + 1) (hT : TW (.node kd nm at' nn kids)) (_hC : Ctx w) (hX : XTB B w (.node kd nm at' nn kids) x) (hkd : kd = 1) :
    Calls Tryz.prog 42 #[x] w fun e w' => e = .returned (.string (bs (inK it kd nm nn (inTs it kids)))) ∧ Below w.heap.size w w' := by
  obtain ⟨hsh, hTs⟩ := hT
  have hk12 := shp_lt hsh
  have HLD := hid (rholds_any B kd nm at' nn kids x w hk12 hX)
  obtain ⟨b, ax, cx, A, rfl, hb, hh, hA, hK⟩ := hX
  have q0 : ((bs (opS kd)).toList == [110, 117, 109, 98, 101, 114]) = decide (kd = 0) := by rw [bs_list]; exact op_number kd hk12
  rw [decide_eq_false (by omega)] at q0
  have q1 : ((bs (opS kd)).toList == [110, 97, 109, 101]) = decide (kd = 1) := by rw [bs_list]; exact op_name kd hk12
  rw [decide_eq_true hkd] at q1
  have q3 : ((bs (opS kd)).toList == [110, 101, 103]) = decide (kd = 3) := by rw [bs_list]; exact op_neg kd hk12
  rw [decide_eq_false (by omega)] at q3
  have q2 : ((bs (opS kd)).toList == [99, 97, 108, 108]) = decide (kd = 2) := by rw [bs_list]; exact op_call kd hk12
  rw [decide_eq_false (by omega)] at q2
  have q9 : ((bs (opS kd)).toList == [108, 101, 116]) = decide (kd = 9) := by rw [bs_list]; exact op_let kd hk12
  rw [decide_eq_false (by omega)] at q9
  have q10 : ((bs (opS kd)).toList == [110, 101, 101, 100]) = decide (kd = 10) := by rw [bs_list]; exact op_need kd hk12
  rw [decide_eq_false (by omega)] at q10
  have q11 : ((bs (opS kd)).toList == [105, 102]) = decide (kd = 11) := by rw [bs_list]; exact op_if kd hk12
  rw [decide_eq_false (by omega)] at q11
  have q8 : ((bs (opS kd)).toList == [61, 61]) = decide (kd = 8) := by rw [bs_list]; exact op_eq kd hk12
  rw [decide_eq_false (by omega)] at q8
  have HXB : Hid (∀ (W : World), Below w.heap.size w W → W.heap[b]? = some (.cells #[.string (bs (opS kd)), .string (bs nm), .int .i64 (nn : Int), .int .i64 A, .slice ax kids.length cx] 97 (0, 0))) := fun W hW => (hW.block b (Array.getElem?_eq_some_iff.1 hh).1).trans hh
  have HSH : Hid (∀ (W : World), Below w.heap.size w W → ∀ (i least : Nat) (t : Tr), kids[i]? = some t → ∃ g vb, ax = some ⟨g, 0, none⟩ ∧ W.cell? ⟨g, i, none⟩ = some (.pointer (some ⟨vb, 0, none⟩)) ∧ Calls Tryz.prog 22 #[.pointer (some ⟨vb, 0, none⟩), .int .i64 (least : Int)] W fun e w' => e = .returned (.string (bs (kt (inTs it kids) i least))) ∧ Below W.heap.size W w') := fun W hW i least t ht => by
    obtain ⟨g, v, h1, h2, h5, h6⟩ := XTBs_at hK ht
    obtain ⟨vb, rfl⟩ := h6.form
    rw [Nat.zero_add] at h5
    have hkl := kid_lt kids i t ht
    have hTt := hTs.at ht
    have hl := inT_len it _hit t hTt
    refine ⟨g, vb, h1, (hW.cell (p := ⟨g, i, none⟩) (World.block_lt_of_cell? _ _ h5)).trans h5, ?_⟩
    rw [kt_at it ht]
    exact rshown_of it Ctx B N _ih t _ W least (by omega) hTt (_hCx _ _ _hC hW) (XTB.keep (fun b hB hl => ⟨hB, hW.block b hl⟩) _ _ h6) (by omega)
  have HKL : Hid (∀ (i least : Nat), (bs (kt (inTs it kids) i least)).size ≤ 50000000) := fun i least => by
    rw [bs_size]
    cases hi : kids[i]? with
    | none => unfold kt; rw [inTs_at, hi]; simp
    | some t =>
      rw [kt_at it hi]
      have h1 := par_len (hld (knd t)) least (inT it t)
      have h2 := inT_len it _hit t (hTs.at hi)
      have h3 := kid_lt kids i t hi
      omega
  have hns : (bs nm).size ≤ 16 := by
    rw [bs_size]
    rcases hsh with h | h | h | h | h | h | h
    · rw [h.2.1]; simp
    · exact h.2.1.2.1
    · exact h.2.1.2.1
    · rw [h.2.1]; simp
    · rw [h.2.2.1]; simp
    · exact h.2.1.2.1
    · rw [h.2.2.1]; simp
  have hos : (bs (opS kd)).size ≤ 6 := by
    rw [bs_size]
    have : ∀ k, k < 12 → (opS k).length ≤ 6 := by decide
    exact this kd hk12
  have HOP : Hid (bs (opS kd) = bs (opS kd)) := rfl
  have HE : Hid (bs (inK it kd nm nn (inTs it kids)) = bs nm) := by
    unfold Hid inK
    rw [if_neg (by omega), if_pos hkd]
  generalize bs (inK it kd nm nn (inTs it kids)) = RES at *
  have HB0 : Hid (Below w.heap.size w w) := Below.refl _ _
  have e0 : w.cell? ⟨b, 0, none⟩ = some (.string (bs (opS kd))) := by simp [World.cell?, hh]
  have e1 : w.cell? ⟨b, 1, none⟩ = some (.string (bs nm)) := by simp [World.cell?, hh]
  generalize bs (opS kd) = op at *
  generalize bs nm = ns at *
  clear hh hK hTs hA hb hsh HKL hns hos hk12 _ih _hIt _hCx _hit _hN _hC
  go_enter Tryz.func42, Tryz.ntmps42
  go_wp2_with fail
  refine HLD.out.mono ?_
  rintro e w9 ⟨rfl, hw⟩
  have hw8 := hw.symm
  subst hw8
  go_wp2_with fail
  go_ret
  exact ⟨by rw [HE.out]; rfl, HB0.out⟩

set_option maxRecDepth 100000 in
set_option maxHeartbeats 4000000 in
theorem rinn_num (it : Nat → List UInt8) (Ctx : World → Prop) (B : Nat → Prop) (N : Nat) (_hit : ∀ n, n ≤ 9223372036854775807 → (it n).length ≤ 20) (_hCx : ∀ W W', Ctx W → Below W.heap.size W W' → Ctx W') (_hIt : ∀ (n : Nat) (W : World), n ≤ 9223372036854775807 → Ctx W → Calls Tryz.prog 64 #[.int .i64 (n : Int)] W fun e w' => e = .returned (.string (bs (it n))) ∧ Below W.heap.size W w') (_hN6 : N ≤ 999999) (_ih : INN it Ctx B N) (kd : Nat) (nm : List UInt8) (at' nn : Nat) (kids : List Tr) (x : Value) (w : World) (_hN : 1 + tszs kids ≤ N + 1) (hT : TW (.node kd nm at' nn kids)) (_hC : Ctx w) (hX : XTB B w (.node kd nm at' nn kids) x) (hkd : kd = 0) :
    Calls Tryz.prog 42 #[x] w fun e w' => e = .returned (.string (bs (inK it kd nm nn (inTs it kids)))) ∧ Below w.heap.size w w' := by
  obtain ⟨hsh, hTs⟩ := hT
  have hk12 := shp_lt hsh
  have HLD := hid (rholds_any B kd nm at' nn kids x w hk12 hX)
  obtain ⟨b, ax, cx, A, rfl, hb, hh, hA, hK⟩ := hX
  have q0 : ((bs (opS kd)).toList == [110, 117, 109, 98, 101, 114]) = decide (kd = 0) := by rw [bs_list]; exact op_number kd hk12
  rw [decide_eq_true hkd] at q0
  have q1 : ((bs (opS kd)).toList == [110, 97, 109, 101]) = decide (kd = 1) := by rw [bs_list]; exact op_name kd hk12
  rw [decide_eq_false (by omega)] at q1
  have q3 : ((bs (opS kd)).toList == [110, 101, 103]) = decide (kd = 3) := by rw [bs_list]; exact op_neg kd hk12
  rw [decide_eq_false (by omega)] at q3
  have q2 : ((bs (opS kd)).toList == [99, 97, 108, 108]) = decide (kd = 2) := by rw [bs_list]; exact op_call kd hk12
  rw [decide_eq_false (by omega)] at q2
  have q9 : ((bs (opS kd)).toList == [108, 101, 116]) = decide (kd = 9) := by rw [bs_list]; exact op_let kd hk12
  rw [decide_eq_false (by omega)] at q9
  have q10 : ((bs (opS kd)).toList == [110, 101, 101, 100]) = decide (kd = 10) := by rw [bs_list]; exact op_need kd hk12
  rw [decide_eq_false (by omega)] at q10
  have q11 : ((bs (opS kd)).toList == [105, 102]) = decide (kd = 11) := by rw [bs_list]; exact op_if kd hk12
  rw [decide_eq_false (by omega)] at q11
  have q8 : ((bs (opS kd)).toList == [61, 61]) = decide (kd = 8) := by rw [bs_list]; exact op_eq kd hk12
  rw [decide_eq_false (by omega)] at q8
  have HXB : Hid (∀ (W : World), Below w.heap.size w W → W.heap[b]? = some (.cells #[.string (bs (opS kd)), .string (bs nm), .int .i64 (nn : Int), .int .i64 A, .slice ax kids.length cx] 97 (0, 0))) := fun W hW => (hW.block b (Array.getElem?_eq_some_iff.1 hh).1).trans hh
  have HSH : Hid (∀ (W : World), Below w.heap.size w W → ∀ (i least : Nat) (t : Tr), kids[i]? = some t → ∃ g vb, ax = some ⟨g, 0, none⟩ ∧ W.cell? ⟨g, i, none⟩ = some (.pointer (some ⟨vb, 0, none⟩)) ∧ Calls Tryz.prog 22 #[.pointer (some ⟨vb, 0, none⟩), .int .i64 (least : Int)] W fun e w' => e = .returned (.string (bs (kt (inTs it kids) i least))) ∧ Below W.heap.size W w') := fun W hW i least t ht => by
    obtain ⟨g, v, h1, h2, h5, h6⟩ := XTBs_at hK ht
    obtain ⟨vb, rfl⟩ := h6.form
    rw [Nat.zero_add] at h5
    have hkl := kid_lt kids i t ht
    have hTt := hTs.at ht
    have hl := inT_len it _hit t hTt
    refine ⟨g, vb, h1, (hW.cell (p := ⟨g, i, none⟩) (World.block_lt_of_cell? _ _ h5)).trans h5, ?_⟩
    rw [kt_at it ht]
    exact rshown_of it Ctx B N _ih t _ W least (by omega) hTt (_hCx _ _ _hC hW) (XTB.keep (fun b hB hl => ⟨hB, hW.block b hl⟩) _ _ h6) (by omega)
  have HKL : Hid (∀ (i least : Nat), (bs (kt (inTs it kids) i least)).size ≤ 50000000) := fun i least => by
    rw [bs_size]
    cases hi : kids[i]? with
    | none => unfold kt; rw [inTs_at, hi]; simp
    | some t =>
      rw [kt_at it hi]
      have h1 := par_len (hld (knd t)) least (inT it t)
      have h2 := inT_len it _hit t (hTs.at hi)
      have h3 := kid_lt kids i t hi
      omega
  have hns : (bs nm).size ≤ 16 := by
    rw [bs_size]
    rcases hsh with h | h | h | h | h | h | h
    · rw [h.2.1]; simp
    · exact h.2.1.2.1
    · exact h.2.1.2.1
    · rw [h.2.1]; simp
    · rw [h.2.2.1]; simp
    · exact h.2.1.2.1
    · rw [h.2.2.1]; simp
  have hos : (bs (opS kd)).size ≤ 6 := by
    rw [bs_size]
    have : ∀ k, k < 12 → (opS k).length ≤ 6 := by decide
    exact this kd hk12
  have HOP : Hid (bs (opS kd) = bs (opS kd)) := rfl
  have HE : Hid (bs (inK it kd nm nn (inTs it kids)) = bs (it nn)) := by
    unfold Hid inK
    rw [if_pos hkd]
  generalize bs (inK it kd nm nn (inTs it kids)) = RES at *
  have HB0 : Hid (Below w.heap.size w w) := Below.refl _ _
  have e0 : w.cell? ⟨b, 0, none⟩ = some (.string (bs (opS kd))) := by simp [World.cell?, hh]
  have e1 : w.cell? ⟨b, 1, none⟩ = some (.string (bs nm)) := by simp [World.cell?, hh]
  generalize bs (opS kd) = op at *
  generalize bs nm = ns at *
  have hn9 : nn ≤ 9223372036854775807 := by rcases hsh with h | h | h | h | h | h | h <;> omega
  have e2 : w.cell? ⟨b, 2, none⟩ = some (.int .i64 (nn : Int)) := by simp [World.cell?, hh]
  have HIT := hid (_hIt nn w hn9 _hC)
  clear hh hK hTs hA hb hsh HKL hns hos hk12 _ih _hIt _hCx _hit _hN _hC
  go_enter Tryz.func42, Tryz.ntmps42
  go_wp2_with fail
  refine HLD.out.mono ?_
  rintro e w9 ⟨rfl, hw⟩
  have hw8 := hw.symm
  subst hw8
  go_wp2_with fail
  refine HIT.out.mono ?_
  rintro e w1 ⟨rfl, hb'⟩
  have HB1 := hid hb'
  clear hb'
  go_wp2_with fail
  go_ret
  exact ⟨by rw [HE.out]; rfl, HB1.out⟩

end Go.Proofs.YthemehdcakimgaiGreatDoor
