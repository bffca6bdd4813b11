/- The reference of programs as text: calls written. The reference of programs as text: any expression written. The reference of programs as text: a program written. Package source: of what rank a part is. Package source: an expression's part, written where it stands. -/
import Derived.Test.YthemehdcakimgaiGreatDoorBgBB
import Derived.Test.YthemehdcakimgaiGreatDoorRjE
import Derived.Test.YthemehdcakimgaiGreatDoorBgBC
import Derived.Test.YthemehdcakimgaiGreatDoorBgAK
import Derived.Deep.RegionHeld3
namespace Go.Proofs.YthemehdcakimgaiGreatDoor
open Go.RowKit

set_option maxRecDepth 100000 in
set_option maxHeartbeats 4000000 in
theorem rinn_call (it : Nat → List UInt8) (Ctx : World → Prop) (B : Nat → Prop) (N : Nat) (_hit : ∀ n, n ≤ 9223372036854775807 → (it n).length ≤ 20) (_hCx : ∀ W W', Ctx W → Below W.heap.size W W' → Ctx W') (_hIt : ∀ (n : Nat) (W : World), n ≤ 9223372036854775807 → Ctx W → Calls Tryz.prog 64 #[.int .i64 (n : Int)] W fun e w' => e = .returned (.string (bs (it n))) ∧ Below W.heap.size W w') (_hN6 : N ≤ 999999) (_ih : INN it Ctx B N) (kd : Nat) (nm : List UInt8) (at' nn : Nat) (kids : List Tr) (x : Value) (w : World) (_hN : 1 + tszs kids ≤ N + 1) (hT : TW (.node kd nm at' nn kids)) (_hC : Ctx w) (hX : XTB B w (.node kd nm at' nn kids) x) (hkd : kd = 2) :
    Calls Tryz.prog 42 #[x] w fun e w' => e = .returned (.string (bs (inK it kd nm nn (inTs it kids)))) ∧ Below w.heap.size w w' := by
  obtain ⟨hsh, hTs⟩ := hT
  have hk12 := shp_lt hsh
  have HLD := hid (rholds_any B kd nm at' nn kids x w hk12 hX)
  obtain ⟨b, ax, cx, A, rfl, hb, hh, hA, hK⟩ := hX
  have q0 : ((bs (opS kd)).toList == [110, 117, 109, 98, 101, 114]) = decide (kd = 0) := by rw [bs_list]; exact op_number kd hk12
  rw [decide_eq_false (by omega)] at q0
  have q1 : ((bs (opS kd)).toList == [110, 97, 109, 101]) = decide (kd = 1) := by rw [bs_list]; exact op_name kd hk12
  rw [decide_eq_false (by omega)] at q1
  have q3 : ((bs (opS kd)).toList == [110, 101, 103]) = decide (kd = 3) := by rw [bs_list]; exact op_neg kd hk12
  rw [decide_eq_false (by omega)] at q3
  have q2 : ((bs (opS kd)).toList == [99, 97, 108, 108]) = decide (kd = 2) := by rw [bs_list]; exact op_call kd hk12
  rw [decide_eq_true hkd] at q2
  have q9 : ((bs (opS kd)).toList == [108, 101, 116]) = decide (kd = 9) := by rw [bs_list]; exact op_let kd hk12
  rw [decide_eq_false (by omega)] at q9
  have q10 : ((bs (opS kd)).toList == [110, 101, 101, 100]) = decide (kd = 10) := by rw [bs_list]; exact op_need kd hk12
  rw [decide_eq_false (by omega)] at q10
  have q11 : ((bs (opS kd)).toList == [105, 102]) = decide (kd = 11) := by rw [bs_list]; exact op_if kd hk12
  rw [decide_eq_false (by omega)] at q11
  have q8 : ((bs (opS kd)).toList == [61, 61]) = decide (kd = 8) := by rw [bs_list]; exact op_eq kd hk12
  rw [decide_eq_false (by omega)] at q8
  have HXB : Hid (∀ (W : World), Below w.heap.size w W → W.heap[b]? = some (.cells #[.string (bs (opS kd)), .string (bs nm), .int .i64 (nn : Int), .int .i64 A, .slice ax kids.length cx] 97 (0, 0))) := fun W hW => (hW.block b (Array.getElem?_eq_some_iff.1 hh).1).trans hh
  have HSH : Hid (∀ (W : World), Below w.heap.size w W → ∀ (i least : Nat) (t : Tr), kids[i]? = some t → ∃ g vb, ax = some ⟨g, 0, none⟩ ∧ W.cell? ⟨g, i, none⟩ = some (.pointer (some ⟨vb, 0, none⟩)) ∧ Calls Tryz.prog 22 #[.pointer (some ⟨vb, 0, none⟩), .int .i64 (least : Int)] W fun e w' => e = .returned (.string (bs (kt (inTs it kids) i least))) ∧ Below W.heap.size W w') := fun W hW i least t ht => by
    obtain ⟨g, v, h1, h2, h5, h6⟩ := XTBs_at hK ht
    obtain ⟨vb, rfl⟩ := h6.form
    rw [Nat.zero_add] at h5
    have hkl := kid_lt kids i t ht
    have hTt := hTs.at ht
    have hl := inT_len it _hit t hTt
    refine ⟨g, vb, h1, (hW.cell (p := ⟨g, i, none⟩) (World.block_lt_of_cell? _ _ h5)).trans h5, ?_⟩
    rw [kt_at it ht]
    exact rshown_of it Ctx B N _ih t _ W least (by omega) hTt (_hCx _ _ _hC hW) (XTB.keep (fun b hB hl => ⟨hB, hW.block b hl⟩) _ _ h6) (by omega)
  have HKL : Hid (∀ (i least : Nat), (bs (kt (inTs it kids) i least)).size ≤ 50000000) := fun i least => by
    rw [bs_size]
    cases hi : kids[i]? with
    | none => unfold kt; rw [inTs_at, hi]; simp
    | some t =>
      rw [kt_at it hi]
      have h1 := par_len (hld (knd t)) least (inT it t)
      have h2 := inT_len it _hit t (hTs.at hi)
      have h3 := kid_lt kids i t hi
      omega
  have hns : (bs nm).size ≤ 16 := by
    rw [bs_size]
    rcases hsh with h | h | h | h | h | h | h
    · rw [h.2.1]; simp
    · exact h.2.1.2.1
    · exact h.2.1.2.1
    · rw [h.2.1]; simp
    · rw [h.2.2.1]; simp
    · exact h.2.1.2.1
    · rw [h.2.2.1]; simp
  have hos : (bs (opS kd)).size ≤ 6 := by
    rw [bs_size]
    have : ∀ k, k < 12 → (opS k).length ≤ 6 := by decide
    exact this kd hk12
  have HOP : Hid (bs (opS kd) = bs (opS kd)) := rfl
  have HE : Hid (bs (inK it kd nm nn (inTs it kids)) = bs (nm ++ [40] ++ jnC (inTs it kids) kids.length) ++ (⟨#[41]⟩ : ByteArray)) := by
    unfold Hid inK
    rw [if_neg (by omega), if_neg (by omega), if_pos hkd, inTs_len, bs_app (nm ++ [40] ++ jnC (inTs it kids) kids.length) [41] |>.symm]
    rfl
  generalize bs (inK it kd nm nn (inTs it kids)) = RES at *
  have HJL : Hid (∀ j, j ≤ kids.length → (bs (nm ++ [40] ++ jnC (inTs it kids) j)).size ≤ 50000000) := fun j hj => by
    rw [bs_size]
    have h1 := jnC_len (inTs it kids) j (by rw [inTs_len]; exact hj)
    have h2 := inTs_smL it _hit kids hTs
    have h3 : smL ((inTs it kids).take j) ≤ smL (inTs it kids) := by
      have h5 := smL_app ((inTs it kids).take j) ((inTs it kids).drop j)
      rw [List.take_append_drop] at h5
      omega
    rw [bs_size] at hns
    simp
    omega
  have HST : Hid (∀ j, bs (nm ++ [40] ++ jnC (inTs it kids) (j + 1)) = if 0 < j then bs (nm ++ [40] ++ jnC (inTs it kids) j) ++ (⟨#[44, 32]⟩ : ByteArray) ++ bs (kt (inTs it kids) j 0) else bs (nm ++ [40] ++ jnC (inTs it kids) j) ++ bs (kt (inTs it kids) j 0)) := fun j => by
    rw [jnC]
    split
    · rw [show (⟨#[44, 32]⟩ : ByteArray) = bs [44, 32] from rfl, bs_app, bs_app]
      simp
    · rw [bs_app]
      simp
  have HS0 : Hid (bs nm ++ (⟨#[40]⟩ : ByteArray) = bs (nm ++ [40] ++ jnC (inTs it kids) 0)) := by
    unfold Hid
    rw [show (⟨#[40]⟩ : ByteArray) = bs [40] from rfl, bs_app, jnC]
    simp
  have HB0 : Hid (Below w.heap.size w w) := Below.refl _ _
  have e0 : w.cell? ⟨b, 0, none⟩ = some (.string (bs (opS kd))) := by simp [World.cell?, hh]
  have e1 : w.cell? ⟨b, 1, none⟩ = some (.string (bs nm)) := by simp [World.cell?, hh]
  have hml : kids.length ≤ 4000 := by rcases hsh with h | h | h | h | h | h | h <;> omega
  obtain ⟨m, hm⟩ : ∃ m, m = kids.length := ⟨_, rfl⟩
  have HMM := hid hm
  rw [← hm] at HXB HE HJL hml
  generalize bs (opS kd) = op at *
  generalize bs nm = ns at *
  have z0 : ¬ 9223372036854775807 < ns.size + 1 := by omega
  have HKK := HKL
  clear hh hK hTs hA hb hsh HKL hns hos hk12 _ih _hIt _hCx _hit _hN _hC hm
  go_enter Tryz.func42, Tryz.ntmps42
  go_wp2_with fail
  refine HLD.out.mono ?_
  rintro e w9 ⟨rfl, hw⟩
  have hw8 := hw.symm
  subst hw8
  go_wp2_with fail
  go_loopw [5, 6] (fun sv iv wr => ∃ j : Nat, j ≤ m ∧ iv = .int .i64 j ∧ sv = .string (bs (nm ++ [40] ++ jnC (inTs it kids) j)) ∧ Hid (Below w.heap.size w wr)) (fun _ iv _ => m - (intOf iv).toNat)
  case atStart => exact ⟨0, Nat.zero_le _, rfl, by rw [← HS0.out], HB0⟩
  case round =>
    obtain ⟨j, hj, rfl, rfl, HB⟩ := hrel
    have hhx := HXB.out wr HB.out
    have hsz := HJL.out j hj
    by_cases hlt : j < m
    · have hlt2 : (j : Int) < (m : Int) := by omega
      have hj0 : (0 : Int) ≤ (j : Int) := by omega
      have hks : IntKind.i64.wrap ((j : Int) + 1) = (j : Int) + 1 := by rw [IntKind.wrap_i64]; omega
      obtain ⟨t, ht⟩ : ∃ t, kids[j]? = some t := ⟨_, List.getElem?_eq_getElem (by have := HMM.out; omega)⟩
      obtain ⟨g, vb, hax, hcg, HS⟩ := HSH.out wr HB.out j 0 t ht
      rw [hax] at hhx
      have f4 : wr.cell? ⟨b, 4, none⟩ = some (.slice (some ⟨g, 0, none⟩) m cx) := by simp [World.cell?, hhx]
      have hz := HKK.out j 0
      have hst := HST.out j
      generalize bs (kt (inTs it kids) j 0) = S1 at HS hz hst
      generalize bs (nm ++ [40] ++ jnC (inTs it kids) j) = S at *
      replace HS := hid HS
      by_cases hp : 0 < j
      · rw [if_pos hp] at hst
        have HN := hid hst
        have hp2 : (0 : Int) < (j : Int) := by omega
        have z1 : ¬ 9223372036854775807 < S.size + 2 := by omega
        have z2 : ¬ 9223372036854775807 < S.size + 2 + S1.size := by omega
        clear hax hhx ht hst hz hsz hp
        go_wp2_with fail
        refine HS.out.mono ?_
        rintro e w1 ⟨rfl, hb'⟩
        have HB1 := hid (HB.out.trans (hb'.mono HB.out.size))
        clear hb' HS f4 hcg
        go_wp2_with fail
        go_roundw
        case rel => exact ⟨j + 1, by omega, by go_num, by rw [HN.out], HB1⟩
        case measure => simp [intOf]; omega
      · rw [if_neg hp] at hst
        have HN := hid hst
        have hp2 : ¬ (0 : Int) < (j : Int) := by omega
        have z1 : ¬ 9223372036854775807 < S.size + S1.size := by omega
        clear hax hhx ht hst hz hsz hp
        go_wp2_with fail
        refine HS.out.mono ?_
        rintro e w1 ⟨rfl, hb'⟩
        have HB1 := hid (HB.out.trans (hb'.mono HB.out.size))
        clear hb' HS f4 hcg
        go_wp2_with fail
        go_roundw
        case rel => exact ⟨j + 1, by omega, by go_num, by rw [HN.out], HB1⟩
        case measure => simp [intOf]; omega
    · obtain rfl : j = m := by omega
      have hlt2 : ¬ (j : Int) < (j : Int) := by omega
      have f4 : wr.cell? ⟨b, 4, none⟩ = some (.slice ax j cx) := by simp [World.cell?, hhx]
      generalize bs (nm ++ [40] ++ jnC (inTs it kids) j) = S at *
      have z1 : ¬ 9223372036854775807 < S.size + 1 := by omega
      clear hhx hsz
      go_wp2_with fail
      go_ret
      exact ⟨by rw [HE.out]; rfl, HB.out⟩

end Go.Proofs.YthemehdcakimgaiGreatDoor

namespace Go.Proofs.YthemehdcakimgaiGreatDoor
open Go.RowKit

theorem inn_all (it : Nat → List UInt8) (Ctx : World → Prop) (B : Nat → Prop) (hit : ∀ n, n ≤ 9223372036854775807 → (it n).length ≤ 20) (hCx : ∀ W W', Ctx W → Below W.heap.size W W' → Ctx W') (hIt : ∀ (n : Nat) (W : World), n ≤ 9223372036854775807 → Ctx W → Calls Tryz.prog 64 #[.int .i64 (n : Int)] W fun e w' => e = .returned (.string (bs (it n))) ∧ Below W.heap.size W w') : ∀ N, N ≤ 1000000 → INN it Ctx B N := by
  intro N
  induction N with
  | zero => intro _ t x w h; have := tsz_pos t; omega
  | succ N ih =>
    intro hN t x w h hT hC hX
    have ih := ih (by omega)
    obtain ⟨kd, nm, at', nn, kids⟩ := t
    rw [tsz] at h
    rw [inT]
    have hsh := hT.1
    rcases hsh with k | k | k | k | k | k | k
    · exact rinn_num it Ctx B N hit hCx hIt (by omega) ih kd nm at' nn kids x w h hT hC hX k.1
    · exact rinn_name it Ctx B N hit hCx hIt (by omega) ih kd nm at' nn kids x w h hT hC hX k.1
    · exact rinn_call it Ctx B N hit hCx hIt (by omega) ih kd nm at' nn kids x w h hT hC hX k.1
    · exact rinn_neg it Ctx B N hit hCx hIt (by omega) ih kd nm at' nn kids x w h hT hC hX k.1
    · by_cases h8 : kd = 8
      · exact rinn_eq it Ctx B N hit hCx hIt (by omega) ih kd nm at' nn kids x w h hT hC hX h8
      · exact rinn_sign it Ctx B N hit hCx hIt (by omega) ih kd nm at' nn kids x w h hT hC hX (by omega)
    · exact rinn_let it Ctx B N hit hCx hIt (by omega) ih kd nm at' nn kids x w h hT hC hX k.1
    · by_cases h10 : kd = 10
      · exact rinn_need it Ctx B N hit hCx hIt (by omega) ih kd nm at' nn kids x w h hT hC hX h10
      · exact rinn_if it Ctx B N hit hCx hIt (by omega) ih kd nm at' nn kids x w h hT hC hX (by omega)

end Go.Proofs.YthemehdcakimgaiGreatDoor

namespace Go.Proofs.YthemehdcakimgaiGreatDoor
open Go.RowKit

/-- names with commas -/
def nmC (ms : List (List UInt8 × Nat)) : Nat → List UInt8
  | 0 => []
  | j + 1 => nmC ms j ++ (if 0 < j then [44, 32] else []) ++ (match ms[j]? with | some x => x.1 | none => [])
/-- a function's line -/
def lnF (it : Nat → List UInt8) (g : FnT) : List UInt8 := [102, 110, 32] ++ g.name ++ [40] ++ nmC g.more g.more.length ++ [41, 32, 61, 32] ++ inT it g.body ++ [10]
/-- a program as text -/
def prP (it : Nat → List UInt8) (fs : List FnT) : Nat → List UInt8
  | 0 => []
  | j + 1 => prP it fs j ++ (match fs[j]? with | some g => lnF it g | none => [])
theorem nmC_len (ms : List (List UInt8 × Nat)) (h : ∀ x, x ∈ ms → x.1.length ≤ 16) : ∀ j, (nmC ms j).length ≤ 18 * j
  | 0 => by simp [nmC]
  | j + 1 => by
    have ih := nmC_len ms h j
    have h4 : (if 0 < j then [44, 32] else ([] : List UInt8)).length ≤ 2 := by split <;> simp
    have h5 : (match ms[j]? with | some x => x.1 | none => []).length ≤ 16 := by
      cases hx : ms[j]? with
      | none => simp
      | some x => exact h x (List.mem_of_getElem? hx)
    rw [nmC, List.length_append, List.length_append]
    omega
theorem lnF_len (it : Nat → List UInt8) (hit : ∀ n, n ≤ 9223372036854775807 → (it n).length ≤ 20) (g : FnT) (h : FW g) : (lnF it g).length ≤ 69 * fsz g := by
  obtain ⟨h1, h2, _, h3⟩ := h
  have e1 := h1.2.1
  have e2 := nmC_len g.more (fun x hx => (h2 x hx).2.1) g.more.length
  have e3 := inT_len it hit g.body h3
  have e4 := tsz_pos g.body
  unfold lnF fsz
  simp
  omega
theorem prP_len (it : Nat → List UInt8) (hit : ∀ n, n ≤ 9223372036854775807 → (it n).length ≤ 20) (fs : List FnT) (h : ∀ g, g ∈ fs → FW g) : ∀ j, (prP it fs j).length ≤ 69 * pwgt (fs.take j)
  | 0 => by simp [prP]
  | j + 1 => by
    have ih := prP_len it hit fs h j
    cases hx : fs[j]? with
    | none =>
      rw [prP, hx]
      have : fs.take (j + 1) = fs.take j := by rw [List.take_add_one, hx]; simp
      rw [this]
      simp
      omega
    | some g =>
      rw [prP, hx, (pwgt_take hx).1, List.length_append]
      have := lnF_len it hit g (h g (List.mem_of_getElem? hx))
      dsimp only
      omega

set_option maxRecDepth 100000 in
set_option maxHeartbeats 4000000 in
theorem rprint_any (it : Nat → List UInt8) (Ctx : World → Prop) (hit : ∀ n, n ≤ 9223372036854775807 → (it n).length ≤ 20) (hCx : ∀ W W', Ctx W → Below W.heap.size W W' → Ctx W') (hIt : ∀ (n : Nat) (W : World), n ≤ 9223372036854775807 → Ctx W → Calls Tryz.prog 64 #[.int .i64 (n : Int)] W fun e w' => e = .returned (.string (bs (it n))) ∧ Below W.heap.size W w')
    (lo c : Nat) (a : Option Addr) (fs : List FnT) (Xs : List Nat) (w : World) (hF : RFl lo w a fs Xs) (hW : ∀ g, g ∈ fs → FW g) (hn : fs.length ≤ 1000000) (hp : pwgt fs ≤ 1000000) (hC : Ctx w) : Calls Tryz.prog 8 #[.slice a fs.length c] w fun e w' => e = .returned (.string (bs (prP it fs fs.length))) ∧ Below w.heap.size w w' := by
  have HIN := hid (inn_all it Ctx (fun b => lo ≤ b) hit hCx hIt 1000000 (Nat.le_refl _))
  have HF := hid hF
  have HW := hid hW
  have HPL := hid (prP_len it hit fs hW)
  have HLF := hid (lnF_len it hit)
  have HPW := hid hp
  have HCX := hid (fun (W : World) (hb : Below w.heap.size w W) => hCx w W hC hb)
  have HTL := hid (fun (g : FnT) (h : FW g) => inT_len it hit g.body h.2.2.2)
  obtain ⟨n, hnn⟩ : ∃ n, n = fs.length := ⟨_, rfl⟩
  have HN := hid hnn
  rw [← hnn] at hn ⊢
  have HB0 : Hid (Below w.heap.size w w) := Below.refl _ _
  clear hF hnn hp hW hit hCx hIt hC
  go_enter Tryz.func8, Tryz.ntmps8
  go_wp2_with fail
  go_loopw [3, 4] (fun sv iv wr => ∃ j : Nat, j ≤ n ∧ iv = .int .i64 j ∧ sv = .string (bs (prP it fs j)) ∧ Hid (Below w.heap.size w wr)) (fun _ iv _ => n - (intOf iv).toNat)
  case atStart => exact ⟨0, Nat.zero_le _, rfl, rfl, HB0⟩
  case round =>
    obtain ⟨j, hj, rfl, rfl, HB⟩ := hrel
    by_cases hlt : j < n
    · have hlt2 : (j : Int) < (n : Int) := by omega
      have hj0 : (0 : Int) ≤ (j : Int) := by omega
      have hks : IntKind.i64.wrap ((j : Int) + 1) = (j : Int) + 1 := by rw [IntKind.wrap_i64]; omega
      obtain ⟨g, X, kb, hg, hX, rfl, hc, hR⟩ := HF.out.get (i := j) (by have := HN.out; omega)
      have hFW := HW.out g (List.mem_of_getElem? hg)
      obtain ⟨am, cm, aw, cw, pb, _, hXh, _, hBd, hMo, _⟩ := hR
      have x0 : w.cell? ⟨X, 0, none⟩ = some (.string (bs g.name)) := by simp [World.cell?, hXh]
      have x2 : w.cell? ⟨X, 2, none⟩ = some (.slice am g.more.length cm) := by simp [World.cell?, hXh]
      have x4 : w.cell? ⟨X, 4, none⟩ = some (.pointer pb) := by simp [World.cell?, hXh]
      have y0 := (HB.out.cell (p := ⟨X, 0, none⟩) (World.block_lt_of_cell? _ _ x0)).trans x0
      have y2 := (HB.out.cell (p := ⟨X, 2, none⟩) (World.block_lt_of_cell? _ _ x2)).trans x2
      have y4 := (HB.out.cell (p := ⟨X, 4, none⟩) (World.block_lt_of_cell? _ _ x4)).trans x4
      have yc := (HB.out.cell (p := ⟨kb, j, none⟩) (World.block_lt_of_cell? _ _ hc)).trans hc
      have HMO : Hid (∀ i x, g.more[i]? = some x → ∃ k, am = some ⟨k, 0, none⟩ ∧ wr.cell? ⟨k, i, none⟩ = some (.string (bs x.1)) ∧ (bs x.1).size ≤ 16) := fun i x hx => by
        obtain ⟨k, k1, _, k3⟩ := hMo i x hx
        exact ⟨k, k1, (HB.out.cell (p := ⟨k, i, none⟩) (World.block_lt_of_cell? _ _ k3)).trans k3, by rw [bs_size]; exact (hFW.2.1 x (List.mem_of_getElem? hx)).2.1⟩
      have hnl : (bs g.name).size ≤ 16 := by rw [bs_size]; exact hFW.1.2.1
      have hpj : (bs (prP it fs j)).size ≤ 69000000 := by
        rw [bs_size]
        have h1 := HPL.out j
        obtain ⟨h2, h3⟩ := pwgt_take hg
        have := HPW.out
        omega
      have hpw := pwgt_mem (List.mem_of_getElem? hg)
      have hfz : fsz g = g.more.length + tsz g.body := rfl
      have hsb : (bs (inT it g.body)).size ≤ 44000000 := by
        rw [bs_size]
        have := HTL.out g hFW
        have := HPW.out
        omega
      have HSH := hid (rshown_of it Ctx _ 1000000 HIN.out g.body _ wr 0 (by have := HPW.out; omega) hFW.2.2.2 (HCX.out wr HB.out) (XTB.keep (fun b hB hl => ⟨hB, HB.out.block b hl⟩) _ _ hBd) (by rw [bs_size] at hsb; omega))
      rw [show par (hld (knd g.body)) 0 (inT it g.body) = inT it g.body from if_neg (Nat.not_lt_zero _)] at HSH
      obtain ⟨m, hm⟩ : ∃ m, m = g.more.length := ⟨_, rfl⟩
      have HM := hid hm
      have hm4 : m ≤ 4000 := by rw [hm]; exact hFW.2.2.1
      rw [← hm] at y2
      have HQ : Hid (∀ l, (bs (prP it fs j ++ [102, 110, 32] ++ g.name ++ [40] ++ nmC g.more l)).size ≤ 69000020 + 18 * l) := fun l => by
        have h1 := nmC_len g.more (fun x hx => (hFW.2.1 x hx).2.1) l
        rw [bs_size] at hpj hnl ⊢
        simp
        omega
      have HQS : Hid (∀ l x, g.more[l]? = some x → bs (prP it fs j ++ [102, 110, 32] ++ g.name ++ [40] ++ nmC g.more (l + 1)) = if 0 < l then bs (prP it fs j ++ [102, 110, 32] ++ g.name ++ [40] ++ nmC g.more l) ++ (⟨#[44, 32]⟩ : ByteArray) ++ bs x.1 else bs (prP it fs j ++ [102, 110, 32] ++ g.name ++ [40] ++ nmC g.more l) ++ bs x.1) := fun l x hx => by
        rw [nmC, hx]
        split
        · rw [show (⟨#[44, 32]⟩ : ByteArray) = bs [44, 32] from rfl, bs_app, bs_app]
          simp
        · rw [bs_app]
          simp
      have HQ0 : Hid (bs (prP it fs j) ++ (⟨#[102, 110, 32]⟩ : ByteArray) ++ bs g.name ++ (⟨#[40]⟩ : ByteArray) = bs (prP it fs j ++ [102, 110, 32] ++ g.name ++ [40] ++ nmC g.more 0)) := by
        unfold Hid
        rw [show (⟨#[102, 110, 32]⟩ : ByteArray) = bs [102, 110, 32] from rfl, show (⟨#[40]⟩ : ByteArray) = bs [40] from rfl, bs_app, bs_app, bs_app, nmC, List.append_nil]
      have HQN : Hid (bs (prP it fs (j + 1)) = bs (prP it fs j ++ [102, 110, 32] ++ g.name ++ [40] ++ nmC g.more m) ++ (⟨#[41, 32, 61, 32]⟩ : ByteArray) ++ bs (inT it g.body) ++ (⟨#[10]⟩ : ByteArray)) := by
        unfold Hid
        rw [prP, hg, show (⟨#[41, 32, 61, 32]⟩ : ByteArray) = bs [41, 32, 61, 32] from rfl, show (⟨#[10]⟩ : ByteArray) = bs [10] from rfl, bs_app, bs_app, bs_app, hm]
        unfold lnF
        simp
      generalize bs (prP it fs j) = R0 at *
      generalize bs g.name = gn at *
      generalize bs (inT it g.body) = SB at *
      generalize (fun l => bs (prP it fs j ++ [102, 110, 32] ++ g.name ++ [40] ++ nmC g.more l)) = Fm at *
      have z1 : ¬ 9223372036854775807 < R0.size + 3 := by omega
      have z2 : ¬ 9223372036854775807 < R0.size + 3 + gn.size := by omega
      have z3 : ¬ 9223372036854775807 < R0.size + 3 + gn.size + 1 := by omega
      clear hX hg hXh hBd hMo hFW x0 x2 x4 hc hpj hpw hfz hm hnl
      go_wp2_with fail
      go_loopw [3, 5] (fun sv iv wq => ∃ l : Nat, l ≤ m ∧ iv = .int .i64 l ∧ sv = .string (bs (prP it fs j ++ [102, 110, 32] ++ g.name ++ [40] ++ nmC g.more l)) ∧ wq = wr) (fun _ iv _ => m - (intOf iv).toNat)
      case atStart => exact ⟨0, Nat.zero_le _, rfl, by rw [← HQ0.out], rfl⟩
      case round =>
        obtain ⟨l, hl, rfl, rfl, hwq⟩ := hrel
        subst hwq
        have hql := HQ.out l
        by_cases hll : l < m
        · have hll2 : (l : Int) < (m : Int) := by omega
          have hl0 : (0 : Int) ≤ (l : Int) := by omega
          have hls : IntKind.i64.wrap ((l : Int) + 1) = (l : Int) + 1 := by rw [IntKind.wrap_i64]; omega
          obtain ⟨x, hx⟩ : ∃ x, g.more[l]? = some x := ⟨_, List.getElem?_eq_getElem (by have := HM.out; omega)⟩
          obtain ⟨k, rfl, hk, hxs⟩ := HMO.out l x hx
          have hst := HQS.out l x hx
          generalize bs (prP it fs j ++ [102, 110, 32] ++ g.name ++ [40] ++ nmC g.more l) = S at *
          generalize bs x.1 = xs at *
          by_cases hp : 0 < l
          · rw [if_pos hp] at hst
            have HST := hid hst
            have hp2 : (0 : Int) < (l : Int) := by omega
            have z4 : ¬ 9223372036854775807 < S.size + 2 := by omega
            have z5 : ¬ 9223372036854775807 < S.size + 2 + xs.size := by omega
            clear hx hst hql hxs hp
            go_wp2_with fail
            go_roundw
            case rel => exact ⟨l + 1, by omega, by go_num, by rw [HST.out], trivial⟩
            case measure => simp [intOf]; omega
          · rw [if_neg hp] at hst
            have HST := hid hst
            have hp2 : ¬ (0 : Int) < (l : Int) := by omega
            have z4 : ¬ 9223372036854775807 < S.size + xs.size := by omega
            clear hx hst hql hxs hp
            go_wp2_with fail
            go_roundw
            case rel => exact ⟨l + 1, by omega, by go_num, by rw [HST.out], trivial⟩
            case measure => simp [intOf]; omega
        · obtain rfl : l = m := by omega
          have hll2 : ¬ (l : Int) < (l : Int) := by omega
          generalize bs (prP it fs j ++ [102, 110, 32] ++ g.name ++ [40] ++ nmC g.more l) = S at *
          have z4 : ¬ 9223372036854775807 < S.size + 4 := by omega
          have z5 : ¬ 9223372036854775807 < S.size + 4 + SB.size := by omega
          have z6 : ¬ 9223372036854775807 < S.size + 4 + SB.size + 1 := by omega
          clear hql
          go_wp2_with fail
          refine HSH.out.mono ?_
          rintro e w1 ⟨rfl, hb'⟩
          have HB1 := hid (HB.out.trans (hb'.mono HB.out.size))
          clear hb' HSH
          go_wp2_with fail
          go_roundw
          case rel => exact ⟨j + 1, by omega, by go_num, by rw [HQN.out], HB1⟩
          case measure => simp [intOf]; omega
    · obtain rfl : j = n := by omega
      have hlt2 : ¬ (j : Int) < (j : Int) := by omega
      go_wp2_with fail
      go_ret
      exact ⟨by rw [HN.out]; rfl, HB.out⟩

end Go.Proofs.YthemehdcakimgaiGreatDoor

namespace Go.Proofs.YthemehdcakimgaiGreatDoor
open Go.RowKit

/-- the rank of a kind -/
def prk (k : Nat) : Nat := if k < 4 then 3 else if k < 6 then 1 else if k < 8 then 2 else 0
/-- brackets stand where the reference has them -/
theorem prk_neg : ∀ k, k < 12 → (decide (prk k < 3) = decide (hld k < 4)) := by decide
theorem prk_sum : ∀ k, k < 12 → (decide (prk k < 1) = decide (hld k < 2)) := by decide
theorem prk_prod : ∀ k, k < 12 → (decide (prk k < 2) = decide (hld k < 3)) := by decide

set_option maxRecDepth 100000 in
set_option maxHeartbeats 2000000 in
theorem prank_any (b k at' n nk c : Nat) (nm : List UInt8) (av : Option Addr) (w : World) (hk12 : k < 12) (hh : w.heap[b]? = some (.cells #[.int .i64 (k : Int), .string (bs nm), .int .i64 (at' : Int), .int .i64 (n : Int), .slice av nk c] 129 (0, 0))) : Calls Tryz.prog 85 #[.pointer (some ⟨b, 0, none⟩)] w fun e w' => e = .returned (.int .i64 (prk k : Int)) ∧ w' = w := by
  have e0 : w.cell? ⟨b, 0, none⟩ = some (.int .i64 (k : Int)) := by simp [World.cell?, hh]
  clear hh
  by_cases k0 : k = 0
  · subst k0
    have HE : Hid ((prk 0 : Int) = 3) := rfl
    clear hk12
    go_enter Tryz.func85, Tryz.ntmps85
    go_wp2_with fail
    go_ret
    exact ⟨by rw [HE.out]; rfl, rfl⟩
  by_cases k1 : k = 1
  · subst k1
    have HE : Hid ((prk 1 : Int) = 3) := rfl
    clear hk12 k0
    go_enter Tryz.func85, Tryz.ntmps85
    go_wp2_with fail
    go_ret
    exact ⟨by rw [HE.out]; rfl, rfl⟩
  by_cases k2 : k = 2
  · subst k2
    have HE : Hid ((prk 2 : Int) = 3) := rfl
    clear hk12 k0 k1
    go_enter Tryz.func85, Tryz.ntmps85
    go_wp2_with fail
    go_ret
    exact ⟨by rw [HE.out]; rfl, rfl⟩
  by_cases k3 : k = 3
  · subst k3
    have HE : Hid ((prk 3 : Int) = 3) := rfl
    clear hk12 k0 k1 k2
    go_enter Tryz.func85, Tryz.ntmps85
    go_wp2_with fail
    go_ret
    exact ⟨by rw [HE.out]; rfl, rfl⟩
  by_cases k4 : k = 4
  · subst k4
    have HE : Hid ((prk 4 : Int) = 1) := rfl
    clear hk12 k0 k1 k2 k3
    go_enter Tryz.func85, Tryz.ntmps85
    go_wp2_with fail
    go_ret
    exact ⟨by rw [HE.out]; rfl, rfl⟩
  by_cases k5 : k = 5
  · subst k5
    have HE : Hid ((prk 5 : Int) = 1) := rfl
    clear hk12 k0 k1 k2 k3 k4
    go_enter Tryz.func85, Tryz.ntmps85
    go_wp2_with fail
    go_ret
    exact ⟨by rw [HE.out]; rfl, rfl⟩
  by_cases k6 : k = 6
  · subst k6
    have HE : Hid ((prk 6 : Int) = 2) := rfl
    clear hk12 k0 k1 k2 k3 k4 k5
    go_enter Tryz.func85, Tryz.ntmps85
    go_wp2_with fail
    go_ret
    exact ⟨by rw [HE.out]; rfl, rfl⟩
  by_cases k7 : k = 7
  · subst k7
    have HE : Hid ((prk 7 : Int) = 2) := rfl
    clear hk12 k0 k1 k2 k3 k4 k5 k6
    go_enter Tryz.func85, Tryz.ntmps85
    go_wp2_with fail
    go_ret
    exact ⟨by rw [HE.out]; rfl, rfl⟩
  by_cases k8 : k = 8
  · subst k8
    have HE : Hid ((prk 8 : Int) = 0) := rfl
    clear hk12 k0 k1 k2 k3 k4 k5 k6 k7
    go_enter Tryz.func85, Tryz.ntmps85
    go_wp2_with fail
    go_ret
    exact ⟨by rw [HE.out]; rfl, rfl⟩
  by_cases k9 : k = 9
  · subst k9
    have HE : Hid ((prk 9 : Int) = 0) := rfl
    clear hk12 k0 k1 k2 k3 k4 k5 k6 k7 k8
    go_enter Tryz.func85, Tryz.ntmps85
    go_wp2_with fail
    go_ret
    exact ⟨by rw [HE.out]; rfl, rfl⟩
  by_cases k10 : k = 10
  · subst k10
    have HE : Hid ((prk 10 : Int) = 0) := rfl
    clear hk12 k0 k1 k2 k3 k4 k5 k6 k7 k8 k9
    go_enter Tryz.func85, Tryz.ntmps85
    go_wp2_with fail
    go_ret
    exact ⟨by rw [HE.out]; rfl, rfl⟩
  by_cases k11 : k = 11
  · subst k11
    have HE : Hid ((prk 11 : Int) = 0) := rfl
    clear hk12 k0 k1 k2 k3 k4 k5 k6 k7 k8 k9 k10
    go_enter Tryz.func85, Tryz.ntmps85
    go_wp2_with fail
    go_ret
    exact ⟨by rw [HE.out]; rfl, rfl⟩
  omega

end Go.Proofs.YthemehdcakimgaiGreatDoor

namespace Go.Proofs.YthemehdcakimgaiGreatDoor
open Go.RowKit

/-- what text does -/
def PTX (it : Nat → List UInt8) (Ctx : World → Prop) (B : Nat → Prop) (N : Nat) : Prop := ∀ (t : Tr) (x : Value) (w : World), tsz t ≤ N → TW t → Ctx w → PTB B w t x → Calls Tryz.prog 41 #[x] w fun e w' => e = .returned (.string (bs (inT it t))) ∧ Below w.heap.size w w'
/-- a rank asks for brackets where so tight a hold does -/
def rkl (rk least : Nat) : Prop := ∀ k, k < 12 → (decide (prk k < rk) = decide (hld k < least))
theorem rkl0 : rkl 0 0 := by unfold rkl; decide
theorem rkl1 : rkl 1 2 := by unfold rkl; decide
theorem rkl2 : rkl 2 3 := by unfold rkl; decide
theorem rkl3 : rkl 3 4 := by unfold rkl; decide

set_option maxRecDepth 100000 in
set_option maxHeartbeats 2000000 in
theorem pown_of (it : Nat → List UInt8) (Ctx : World → Prop) (B : Nat → Prop) (N : Nat) (hI : PTX it Ctx B N) (b k at' n i rk least c : Nat) (nm : List UInt8) (av : Option Addr) (kids : List Tr) (t : Tr) (w : World) (hr : rkl rk least) (hN : tsz t ≤ N) (hT : TW t) (hC : Ctx w) (hi : i ≤ 4000)
    (hh : w.heap[b]? = some (.cells #[.int .i64 (k : Int), .string (bs nm), .int .i64 (at' : Int), .int .i64 (n : Int), .slice av kids.length c] 129 (0, 0))) (hK : PTBs B w av kids 0) (ht : kids[i]? = some t) (hl : (inT it t).length ≤ 100000000) :
    Calls Tryz.prog 66 #[.pointer (some ⟨b, 0, none⟩), .int .i64 (i : Int), .int .i64 (rk : Int)] w fun e w' => e = .returned (.string (bs (kt (inTs it kids) i least))) ∧ Below w.heap.size w w' := by
  have e4 : w.cell? ⟨b, 4, none⟩ = some (.slice av kids.length c) := by simp [World.cell?, hh]
  obtain ⟨g, v, rfl, _, hg, hv⟩ := hK.at ht
  rw [Nat.zero_add] at hg
  rw [kt_at it ht]
  have hik : (i : Int) < (kids.length : Int) := by
    rcases Nat.lt_or_ge i kids.length with h | h
    · omega
    · rw [List.getElem?_eq_none h] at ht; cases ht
  generalize kids.length = m at *
  have HT := hid (hI t v w hN hT hC hv)
  obtain ⟨kd, nm2, at2, nn2, kids2⟩ := t
  have hk12 : kd < 12 := shp_lt hT.1
  obtain ⟨b2, a2, c2, rfl, _, hh2, _⟩ := hv
  have HRK := hid (prank_any b2 kd at2 nn2 kids2.length c2 nm2 a2 w hk12 hh2)
  rw [show knd (.node kd nm2 at2 nn2 kids2) = kd from rfl]
  have hrk := hr kd hk12
  have hz : (bs (inT it (.node kd nm2 at2 nn2 kids2))).size ≤ 100000000 := by rw [bs_size]; exact hl
  have HPAR : Hid (bs (par (hld kd) least (inT it (.node kd nm2 at2 nn2 kids2))) = if decide (prk kd < rk) = true then (⟨#[40]⟩ : ByteArray) ++ bs (inT it (.node kd nm2 at2 nn2 kids2)) ++ (⟨#[41]⟩ : ByteArray) else bs (inT it (.node kd nm2 at2 nn2 kids2))) := by
    unfold Hid par
    rw [hrk]
    by_cases h : hld kd < least
    · rw [if_pos h, if_pos (decide_eq_true h), ← bs_app, ← bs_app]; rfl
    · rw [if_neg h, if_neg (by simpa using h)]
  generalize bs (par (hld kd) least (inT it (.node kd nm2 at2 nn2 kids2))) = RES at *
  generalize bs (inT it (.node kd nm2 at2 nn2 kids2)) = S at *
  generalize prk kd = pk at *
  have hi0 : (0 : Int) ≤ (i : Int) := by omega
  have z1 : ¬ 9223372036854775807 < 1 + S.size := by omega
  have z2 : ¬ 9223372036854775807 < 1 + S.size + 1 := by omega
  clear hh hK ht hl hI hr hT hC hN hk12 hh2 hrk hz
  by_cases hlt : pk < rk
  · have q : (pk : Int) < (rk : Int) := by omega
    rw [if_pos (decide_eq_true hlt)] at HPAR
    clear hlt
    go_enter Tryz.func66, Tryz.ntmps66
    go_wp2_with fail
    refine HRK.out.mono ?_
    rintro e w1 ⟨rfl, hw⟩
    have hw1 := hw.symm
    subst hw1
    go_wp2_with fail
    refine HT.out.mono ?_
    rintro e w2 ⟨rfl, hb2⟩
    have HB2 := hid hb2
    clear hb2
    go_wp2_with fail
    go_ret
    exact ⟨by rw [HPAR.out]; rfl, HB2.out⟩
  · have q : ¬ (pk : Int) < (rk : Int) := by omega
    rw [if_neg (by simpa using hlt)] at HPAR
    clear hlt
    go_enter Tryz.func66, Tryz.ntmps66
    go_wp2_with fail
    refine HRK.out.mono ?_
    rintro e w1 ⟨rfl, hw⟩
    have hw1 := hw.symm
    subst hw1
    go_wp2_with fail
    refine HT.out.mono ?_
    rintro e w2 ⟨rfl, hb2⟩
    have HB2 := hid hb2
    clear hb2
    go_wp2_with fail
    go_ret
    exact ⟨by rw [HPAR.out]; rfl, HB2.out⟩

end Go.Proofs.YthemehdcakimgaiGreatDoor
