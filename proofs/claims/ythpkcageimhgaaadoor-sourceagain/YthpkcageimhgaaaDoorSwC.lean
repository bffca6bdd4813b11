/- Package source: signs written. -/
import Derived.Test.YthpkcageimhgaaaDoorSqAQ
namespace Go.Proofs.YthpkcageimhgaaaDoor
open Go.RowKit

set_option maxRecDepth 100000 in
set_option maxHeartbeats 4000000 in
theorem ptx_neg (it : Nat → List UInt8) (Ctx : World → Prop) (B : Nat → Prop) (N : Nat) (hit : ∀ n, n ≤ 9223372036854775807 → (it n).length ≤ 20) (hCx : ∀ W W', Ctx W → Below W.heap.size W W' → Ctx W') (_hIt : ∀ (n : Nat) (W : World), n ≤ 9223372036854775807 → Ctx W → Calls Tryd.prog 29 #[.int .i64 (n : Int)] W fun e w' => e = .returned (.string (bs (it n))) ∧ Below W.heap.size W w') (hN : N < 1000000) (ih : PTX it Ctx B N) (kd : Nat) (nm : List UInt8) (at' nn : Nat) (kids : List Tr) (x : Value) (w : World) (h : 1 + tszs kids ≤ N + 1) (hT : TW (.node kd nm at' nn kids)) (hC : Ctx w) (hX : PTB B w (.node kd nm at' nn kids) x) (hkd : kd = 3) :
    Calls Tryd.prog 18 #[x] w fun e w' => e = .returned (.string (bs (inK it kd nm nn (inTs it kids)))) ∧ Below w.heap.size w w' := by
  obtain ⟨hsh, hTs⟩ := hT
  obtain ⟨b, ax, cx, rfl, hb, hh, hK⟩ := hX
  have HOW : Hid (∀ (W : World), Below w.heap.size w W → ∀ (i rk least : Nat) (t : Tr), kids[i]? = some t → i ≤ 4000 → rkl rk least → Calls Tryd.prog 31 #[.pointer (some ⟨b, 0, none⟩), .int .i64 (i : Int), .int .i64 (rk : Int)] W fun e w' => e = .returned (.string (bs (kt (inTs it kids) i least))) ∧ Below w.heap.size w w') := fun W hW i rk least t ht hi hr => by
    have hkl := kid_lt kids i t ht
    have hTt := hTs.at ht
    have hl := inT_len it hit t hTt
    refine (pown_of it Ctx B N ih b kd at' nn i rk least cx nm ax kids t W hr (by omega) hTt (hCx _ _ hC hW) hi ((hW.block b (Array.getElem?_eq_some_iff.1 hh).1).trans hh) (PTBs.keep (fun b hB hl => ⟨hB, hW.block b hl⟩) _ _ _ hK) ht (by omega)).mono fun e w' ⟨h1, h2⟩ => ⟨h1, hW.trans (h2.mono hW.size)⟩
  have HKL : Hid (∀ (i least : Nat), (bs (kt (inTs it kids) i least)).size ≤ 50000000) := fun i least => by
    rw [bs_size]
    cases hi : kids[i]? with
    | none => unfold kt; rw [inTs_at, hi]; simp
    | some t =>
      rw [kt_at it hi]
      have h1 := par_len (hld (knd t)) least (inT it t)
      have h2 := inT_len it hit t (hTs.at hi)
      have h3 := kid_lt kids i t hi
      omega
  have hns : (bs nm).size ≤ 16 := by
    rw [bs_size]
    rcases hsh with h | h | h | h | h | h | h
    · rw [h.2.1]; simp
    · exact h.2.1.2.1
    · exact h.2.1.2.1
    · rw [h.2.1]; simp
    · rw [h.2.2.1]; simp
    · exact h.2.1.2.1
    · rw [h.2.2.1]; simp
  have e0 : w.cell? ⟨b, 0, none⟩ = some (.int .i64 (kd : Int)) := by simp [World.cell?, hh]
  have e1 : w.cell? ⟨b, 1, none⟩ = some (.string (bs nm)) := by simp [World.cell?, hh]
  have HB0 : Hid (Below w.heap.size w w) := Below.refl _ _
  obtain ⟨t0, hkids⟩ : ∃ t0, kids = [t0] := by
    have hm : kids.length = 1 := by rcases hsh with h | h | h | h | h | h | h <;> omega
    match kids, hm with
    | [t0], _ => exact ⟨t0, rfl⟩
  have HT0 : Hid (kids[0]? = some t0) := by rw [hkids]; exact rfl
  clear hkids
  have HE : Hid (bs (inK it kd nm nn (inTs it kids)) = (⟨#[45]⟩ : ByteArray) ++ bs (kt (inTs it kids) 0 4)) := by
    unfold Hid inK
    rw [if_neg (by omega), if_neg (by omega), if_neg (by omega), if_pos hkd]
    simp only [← bs_app]
    rfl
  have hz0 := HKL.out 0 4
  have HW0 : Hid (∀ W, Below w.heap.size w W → Calls Tryd.prog 31 #[.pointer (some ⟨b, 0, none⟩), .int .i64 (0 : Int), .int .i64 (3 : Int)] W fun e w' => e = .returned (.string (bs (kt (inTs it kids) 0 4))) ∧ Below w.heap.size w w') := fun W hW => HOW.out W hW 0 3 4 t0 HT0.out (by omega) rkl3
  generalize bs (inK it kd nm nn (inTs it kids)) = RES at *
  generalize bs (kt (inTs it kids) 0 4) = S0 at HE hz0 HW0
  generalize bs nm = ns at *
  have z1 : ¬ 9223372036854775807 < 1 + S0.size := by omega
  subst hkd
  clear hh hK hTs hb hsh HKL HOW hns ih _hIt hCx hit hN hC h hz0
  go_enter Tryd.func18, Tryd.ntmps18
  go_wp2_with fail
  refine (HW0.out w HB0.out).mono ?_
  rintro e w1 ⟨rfl, hb'⟩
  have HB1 := hid hb'
  clear hb' HW0
  go_wp2_with fail
  go_ret
  exact ⟨by rw [HE.out]; rfl, HB1.out⟩

set_option maxRecDepth 100000 in
set_option maxHeartbeats 4000000 in
theorem ptx_eq (it : Nat → List UInt8) (Ctx : World → Prop) (B : Nat → Prop) (N : Nat) (hit : ∀ n, n ≤ 9223372036854775807 → (it n).length ≤ 20) (hCx : ∀ W W', Ctx W → Below W.heap.size W W' → Ctx W') (_hIt : ∀ (n : Nat) (W : World), n ≤ 9223372036854775807 → Ctx W → Calls Tryd.prog 29 #[.int .i64 (n : Int)] W fun e w' => e = .returned (.string (bs (it n))) ∧ Below W.heap.size W w') (hN : N < 1000000) (ih : PTX it Ctx B N) (kd : Nat) (nm : List UInt8) (at' nn : Nat) (kids : List Tr) (x : Value) (w : World) (h : 1 + tszs kids ≤ N + 1) (hT : TW (.node kd nm at' nn kids)) (hC : Ctx w) (hX : PTB B w (.node kd nm at' nn kids) x) (hkd : kd = 8) :
    Calls Tryd.prog 18 #[x] w fun e w' => e = .returned (.string (bs (inK it kd nm nn (inTs it kids)))) ∧ Below w.heap.size w w' := by
  obtain ⟨hsh, hTs⟩ := hT
  obtain ⟨b, ax, cx, rfl, hb, hh, hK⟩ := hX
  have HOW : Hid (∀ (W : World), Below w.heap.size w W → ∀ (i rk least : Nat) (t : Tr), kids[i]? = some t → i ≤ 4000 → rkl rk least → Calls Tryd.prog 31 #[.pointer (some ⟨b, 0, none⟩), .int .i64 (i : Int), .int .i64 (rk : Int)] W fun e w' => e = .returned (.string (bs (kt (inTs it kids) i least))) ∧ Below w.heap.size w w') := fun W hW i rk least t ht hi hr => by
    have hkl := kid_lt kids i t ht
    have hTt := hTs.at ht
    have hl := inT_len it hit t hTt
    refine (pown_of it Ctx B N ih b kd at' nn i rk least cx nm ax kids t W hr (by omega) hTt (hCx _ _ hC hW) hi ((hW.block b (Array.getElem?_eq_some_iff.1 hh).1).trans hh) (PTBs.keep (fun b hB hl => ⟨hB, hW.block b hl⟩) _ _ _ hK) ht (by omega)).mono fun e w' ⟨h1, h2⟩ => ⟨h1, hW.trans (h2.mono hW.size)⟩
  have HKL : Hid (∀ (i least : Nat), (bs (kt (inTs it kids) i least)).size ≤ 50000000) := fun i least => by
    rw [bs_size]
    cases hi : kids[i]? with
    | none => unfold kt; rw [inTs_at, hi]; simp
    | some t =>
      rw [kt_at it hi]
      have h1 := par_len (hld (knd t)) least (inT it t)
      have h2 := inT_len it hit t (hTs.at hi)
      have h3 := kid_lt kids i t hi
      omega
  have hns : (bs nm).size ≤ 16 := by
    rw [bs_size]
    rcases hsh with h | h | h | h | h | h | h
    · rw [h.2.1]; simp
    · exact h.2.1.2.1
    · exact h.2.1.2.1
    · rw [h.2.1]; simp
    · rw [h.2.2.1]; simp
    · exact h.2.1.2.1
    · rw [h.2.2.1]; simp
  have e0 : w.cell? ⟨b, 0, none⟩ = some (.int .i64 (kd : Int)) := by simp [World.cell?, hh]
  have e1 : w.cell? ⟨b, 1, none⟩ = some (.string (bs nm)) := by simp [World.cell?, hh]
  have HB0 : Hid (Below w.heap.size w w) := Below.refl _ _
  obtain ⟨t0, t1, hkids⟩ : ∃ t0 t1, kids = [t0, t1] := by
    have hm : kids.length = 2 := by rcases hsh with h | h | h | h | h | h | h <;> omega
    match kids, hm with
    | [t0, t1], _ => exact ⟨t0, t1, rfl⟩
  have HT0 : Hid (kids[0]? = some t0) := by rw [hkids]; exact rfl
  have HT1 : Hid (kids[1]? = some t1) := by rw [hkids]; exact rfl
  clear hkids
  have HE : Hid (bs (inK it kd nm nn (inTs it kids)) = bs (kt (inTs it kids) 0 2) ++ (⟨#[32, 61, 61, 32]⟩ : ByteArray) ++ bs (kt (inTs it kids) 1 2)) := by
    unfold Hid inK
    rw [if_neg (by omega), if_neg (by omega), if_neg (by omega), if_neg (by omega), if_neg (by omega), if_neg (by omega), if_neg (by omega), if_pos hkd]
    simp only [← bs_app]
    rfl
  have hz0 := HKL.out 0 2
  have hz1 := HKL.out 1 2
  have HW0 : Hid (∀ W, Below w.heap.size w W → Calls Tryd.prog 31 #[.pointer (some ⟨b, 0, none⟩), .int .i64 (0 : Int), .int .i64 (1 : Int)] W fun e w' => e = .returned (.string (bs (kt (inTs it kids) 0 2))) ∧ Below w.heap.size w w') := fun W hW => HOW.out W hW 0 1 2 t0 HT0.out (by omega) rkl1
  have HW1 : Hid (∀ W, Below w.heap.size w W → Calls Tryd.prog 31 #[.pointer (some ⟨b, 0, none⟩), .int .i64 (1 : Int), .int .i64 (1 : Int)] W fun e w' => e = .returned (.string (bs (kt (inTs it kids) 1 2))) ∧ Below w.heap.size w w') := fun W hW => HOW.out W hW 1 1 2 t1 HT1.out (by omega) rkl1
  generalize bs (inK it kd nm nn (inTs it kids)) = RES at *
  generalize bs (kt (inTs it kids) 0 2) = S0 at HE hz0 HW0
  generalize bs (kt (inTs it kids) 1 2) = S1 at HE hz1 HW1
  generalize bs nm = ns at *
  have z1 : ¬ 9223372036854775807 < S0.size + 4 := by omega
  have z2 : ¬ 9223372036854775807 < S0.size + 4 + S1.size := by omega
  subst hkd
  clear hh hK hTs hb hsh HKL HOW hns ih _hIt hCx hit hN hC h hz0 hz1
  go_enter Tryd.func18, Tryd.ntmps18
  go_wp2_with fail
  refine (HW0.out w HB0.out).mono ?_
  rintro e w1 ⟨rfl, hb'⟩
  have HB1 := hid hb'
  clear hb' HW0
  go_wp2_with fail
  refine (HW1.out w1 HB1.out).mono ?_
  rintro e w2 ⟨rfl, hb'⟩
  have HB2 := hid hb'
  clear hb' HW1
  go_wp2_with fail
  go_ret
  exact ⟨by rw [HE.out]; rfl, HB2.out⟩

set_option maxRecDepth 100000 in
set_option maxHeartbeats 4000000 in
theorem ptx_let (it : Nat → List UInt8) (Ctx : World → Prop) (B : Nat → Prop) (N : Nat) (hit : ∀ n, n ≤ 9223372036854775807 → (it n).length ≤ 20) (hCx : ∀ W W', Ctx W → Below W.heap.size W W' → Ctx W') (_hIt : ∀ (n : Nat) (W : World), n ≤ 9223372036854775807 → Ctx W → Calls Tryd.prog 29 #[.int .i64 (n : Int)] W fun e w' => e = .returned (.string (bs (it n))) ∧ Below W.heap.size W w') (hN : N < 1000000) (ih : PTX it Ctx B N) (kd : Nat) (nm : List UInt8) (at' nn : Nat) (kids : List Tr) (x : Value) (w : World) (h : 1 + tszs kids ≤ N + 1) (hT : TW (.node kd nm at' nn kids)) (hC : Ctx w) (hX : PTB B w (.node kd nm at' nn kids) x) (hkd : kd = 9) :
    Calls Tryd.prog 18 #[x] w fun e w' => e = .returned (.string (bs (inK it kd nm nn (inTs it kids)))) ∧ Below w.heap.size w w' := by
  obtain ⟨hsh, hTs⟩ := hT
  obtain ⟨b, ax, cx, rfl, hb, hh, hK⟩ := hX
  have HOW : Hid (∀ (W : World), Below w.heap.size w W → ∀ (i rk least : Nat) (t : Tr), kids[i]? = some t → i ≤ 4000 → rkl rk least → Calls Tryd.prog 31 #[.pointer (some ⟨b, 0, none⟩), .int .i64 (i : Int), .int .i64 (rk : Int)] W fun e w' => e = .returned (.string (bs (kt (inTs it kids) i least))) ∧ Below w.heap.size w w') := fun W hW i rk least t ht hi hr => by
    have hkl := kid_lt kids i t ht
    have hTt := hTs.at ht
    have hl := inT_len it hit t hTt
    refine (pown_of it Ctx B N ih b kd at' nn i rk least cx nm ax kids t W hr (by omega) hTt (hCx _ _ hC hW) hi ((hW.block b (Array.getElem?_eq_some_iff.1 hh).1).trans hh) (PTBs.keep (fun b hB hl => ⟨hB, hW.block b hl⟩) _ _ _ hK) ht (by omega)).mono fun e w' ⟨h1, h2⟩ => ⟨h1, hW.trans (h2.mono hW.size)⟩
  have HKL : Hid (∀ (i least : Nat), (bs (kt (inTs it kids) i least)).size ≤ 50000000) := fun i least => by
    rw [bs_size]
    cases hi : kids[i]? with
    | none => unfold kt; rw [inTs_at, hi]; simp
    | some t =>
      rw [kt_at it hi]
      have h1 := par_len (hld (knd t)) least (inT it t)
      have h2 := inT_len it hit t (hTs.at hi)
      have h3 := kid_lt kids i t hi
      omega
  have hns : (bs nm).size ≤ 16 := by
    rw [bs_size]
    rcases hsh with h | h | h | h | h | h | h
    · rw [h.2.1]; simp
    · exact h.2.1.2.1
    · exact h.2.1.2.1
    · rw [h.2.1]; simp
    · rw [h.2.2.1]; simp
    · exact h.2.1.2.1
    · rw [h.2.2.1]; simp
  have e0 : w.cell? ⟨b, 0, none⟩ = some (.int .i64 (kd : Int)) := by simp [World.cell?, hh]
  have e1 : w.cell? ⟨b, 1, none⟩ = some (.string (bs nm)) := by simp [World.cell?, hh]
  have HB0 : Hid (Below w.heap.size w w) := Below.refl _ _
  obtain ⟨t0, t1, hkids⟩ : ∃ t0 t1, kids = [t0, t1] := by
    have hm : kids.length = 2 := by rcases hsh with h | h | h | h | h | h | h <;> omega
    match kids, hm with
    | [t0, t1], _ => exact ⟨t0, t1, rfl⟩
  have HT0 : Hid (kids[0]? = some t0) := by rw [hkids]; exact rfl
  have HT1 : Hid (kids[1]? = some t1) := by rw [hkids]; exact rfl
  clear hkids
  have HE : Hid (bs (inK it kd nm nn (inTs it kids)) = (⟨#[108, 101, 116, 32]⟩ : ByteArray) ++ bs nm ++ (⟨#[32, 61, 32]⟩ : ByteArray) ++ bs (kt (inTs it kids) 0 0) ++ (⟨#[59, 32]⟩ : ByteArray) ++ bs (kt (inTs it kids) 1 0)) := by
    unfold Hid inK
    rw [if_neg (by omega), if_neg (by omega), if_neg (by omega), if_neg (by omega), if_pos hkd]
    simp only [← bs_app]
    rfl
  have hz0 := HKL.out 0 0
  have hz1 := HKL.out 1 0
  have HW0 : Hid (∀ W, Below w.heap.size w W → Calls Tryd.prog 31 #[.pointer (some ⟨b, 0, none⟩), .int .i64 (0 : Int), .int .i64 (0 : Int)] W fun e w' => e = .returned (.string (bs (kt (inTs it kids) 0 0))) ∧ Below w.heap.size w w') := fun W hW => HOW.out W hW 0 0 0 t0 HT0.out (by omega) rkl0
  have HW1 : Hid (∀ W, Below w.heap.size w W → Calls Tryd.prog 31 #[.pointer (some ⟨b, 0, none⟩), .int .i64 (1 : Int), .int .i64 (0 : Int)] W fun e w' => e = .returned (.string (bs (kt (inTs it kids) 1 0))) ∧ Below w.heap.size w w') := fun W hW => HOW.out W hW 1 0 0 t1 HT1.out (by omega) rkl0
  generalize bs (inK it kd nm nn (inTs it kids)) = RES at *
  generalize bs (kt (inTs it kids) 0 0) = S0 at HE hz0 HW0
  generalize bs (kt (inTs it kids) 1 0) = S1 at HE hz1 HW1
  generalize bs nm = ns at *
  have z1 : ¬ 9223372036854775807 < 4 + ns.size := by omega
  have z2 : ¬ 9223372036854775807 < 4 + ns.size + 3 := by omega
  have z3 : ¬ 9223372036854775807 < 4 + ns.size + 3 + S0.size := by omega
  have z4 : ¬ 9223372036854775807 < 4 + ns.size + 3 + S0.size + 2 := by omega
  have z5 : ¬ 9223372036854775807 < 4 + ns.size + 3 + S0.size + 2 + S1.size := by omega
  have HKE : Hid (∀ W, Below w.heap.size w W → W.cell? ⟨b, 1, none⟩ = some (.string ns)) := fun W hW => (hW.cell (p := ⟨b, 1, none⟩) (World.block_lt_of_cell? _ _ e1)).trans e1
  have hd1 : Below w.heap.size w w.drew := (Below.refl _ _).drew
  subst hkd
  clear hh hK hTs hb hsh HKL HOW hns ih _hIt hCx hit hN hC h hz0 hz1
  go_enter Tryd.func18, Tryd.ntmps18
  go_wp2_with fail
  clear HB0
  go_region_held3 (fun W => W.cell? ⟨b, 1, none⟩ = some (.string ns)) (exact HKE.out _ (by assumption))
    (first
      | (go_at_call 31; with_reducible refine (HW0.out _ (by assumption)).mono ?_; rintro e w1 ⟨rfl, hb1⟩)
      | (go_at_call 31; with_reducible refine (HW1.out _ (by assumption)).mono ?_; rintro e w2 ⟨rfl, hb2⟩))
  have HBZ := hid hb2
  go_wp2_with fail
  go_ret
  exact ⟨by rw [HE.out]; rfl, HBZ.out⟩

end Go.Proofs.YthpkcageimhgaaaDoor
