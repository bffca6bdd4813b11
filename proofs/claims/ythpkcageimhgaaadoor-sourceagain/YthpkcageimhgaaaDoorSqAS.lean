/- Package source: calls written; names joined. Package source: any expression written. -/
import Derived.Test.YthpkcageimhgaaaDoorSqAQ
import Derived.Test.YthpkcageimhgaaaDoorSqAR
import Derived.Deep.OwnRows
import Derived.Test.YthpkcageimhgaaaDoorSwC
import Derived.Test.YthpkcageimhgaaaDoorSwD
import Derived.Test.YthpkcageimhgaaaDoorSwE
namespace Go.Proofs.YthpkcageimhgaaaDoor
open Go.RowKit

/-- strings, one after another; the first k of them alone -/
def stV (F : Nat → List UInt8) (k : Nat) (i : Nat) : Value := .string (if i < k then bs (F i) else ⟨#[]⟩)
/-- .. with commas -/
def jnF (F : Nat → List UInt8) : Nat → List UInt8
  | 0 => []
  | j + 1 => jnF F j ++ (if 0 < j then [44, 32] else []) ++ F j
theorem jnC_F (ks : List (Nat × List UInt8)) : ∀ j, jnC ks j = jnF (fun i => kt ks i 0) j
  | 0 => rfl
  | j + 1 => by rw [jnC, jnF, jnC_F ks j]
theorem nmC_F (ms : List (List UInt8 × Nat)) : ∀ j, nmC ms j = jnF (fun i => match ms[i]? with | some x => x.1 | none => []) j
  | 0 => rfl
  | j + 1 => by rw [nmC, jnF, nmC_F ms j]; rfl
theorem jnF_join (F : Nat → List UInt8) : ∀ j, jnF F j = Lib.join ((List.range j).map F) [44, 32]
  | 0 => rfl
  | j + 1 => by
    rw [jnF, jnF_join F j, List.range_succ, List.map_append, List.map_cons, List.map_nil]
    cases hj : (List.range j).map F with
    | nil =>
      have : j = 0 := by simpa using hj
      subst this
      rw [List.nil_append, Lib.join_one, Lib.join_nil]
      simp
    | cons x r =>
      have : 0 < j := by
        rcases Nat.eq_zero_or_pos j with h | h
        · subst h; simp at hj
        · exact h
      rw [if_pos this, List.cons_append, Lib.join_cons, Lib.join_cons, Lib.joinTail, Lib.joinTail]
      simp
theorem pjoin_any (F : Nat → List UInt8) (K m : Nat) (w : World) (hm : m ≤ 4000) (hR : w.rowIs K 9 m (stV F m)) (hl : (jnF F m).length ≤ 100000000) :
    Calls Tryd.prog 16 #[.slice (some ⟨K, 0, none⟩) m m, .string ⟨#[44, 32]⟩] w fun e w' => e = .returned (.string (bs (jnF F m))) ∧ Below w.heap.size w w' := by
  have hmap : ((List.range m).map fun i => bs (F i)).map (·.data.toList) = (List.range m).map F := by
    rw [List.map_map]
    apply List.map_congr_left
    intro i _
    simp [bs]
  have h := Tryd.strings_Join K 0 m ((List.range m).map fun i => bs (F i)) ⟨#[44, 32]⟩ w (fun j x hx => by
    have hj : j < m := by
      rcases Nat.lt_or_ge j m with h | h
      · exact h
      · rw [List.getElem?_eq_none (by simpa using h)] at hx; cases hx
    have hx2 : x = bs (F j) := by simp [hj] at hx; exact hx.symm
    rw [hx2, Nat.zero_add, hR.cell hj]
    unfold stV
    rw [if_pos hj]) (by obtain ⟨cs, h1, _⟩ := hR; exact (Array.getElem?_eq_some_iff.1 h1).1) (by simp; omega) (by simp) (by rw [hmap]; rw [show (⟨#[44, 32]⟩ : ByteArray).data.toList = [44, 32] from rfl, ← jnF_join]; omega)
  rw [hmap, show (⟨#[44, 32]⟩ : ByteArray).data.toList = [44, 32] from rfl, ← jnF_join] at h
  simpa [bs] using h

set_option maxRecDepth 100000 in
set_option maxHeartbeats 2000000 in
theorem pargs_of (F : Nat → List UInt8) (b k at' n m c : Nat) (nm : List UInt8) (av : Option Addr) (w : World) (hm : m ≤ 4000)
    (hh : w.heap[b]? = some (.cells #[.int .i64 (k : Int), .string (bs nm), .int .i64 (at' : Int), .int .i64 (n : Int), .slice av m c] 84 (0, 0)))
    (hO : ∀ W, Below w.heap.size w W → ∀ i, i < m → Calls Tryd.prog 31 #[.pointer (some ⟨b, 0, none⟩), .int .i64 (i : Int), .int .i64 0] W fun e w' => e = .returned (.string (bs (F i))) ∧ Below W.heap.size W w') :
    Calls Tryd.prog 30 #[.pointer (some ⟨b, 0, none⟩)] w fun e w' => ∃ K, e = .returned (.slice (some ⟨K, 0, none⟩) m m) ∧ w'.rowIs K 9 m (stV F m) ∧ Below w.heap.size w w' := by
  have e4 : w.cell? ⟨b, 4, none⟩ = some (.slice av m c) := by simp [World.cell?, hh]
  have e4' : (w.alloc (.cells (madeCells #[.string ⟨#[]⟩] m) 9)).cell? ⟨b, 4, none⟩ = some (.slice av m c) := (((Below.refl _ w).alloc (Nat.le_refl _) _).cell (p := ⟨b, 4, none⟩) (World.block_lt_of_cell? _ _ e4)).trans e4
  have HO := hid hO
  have HB0 : Hid (Below w.heap.size w (w.alloc (.cells (madeCells #[.string ⟨#[]⟩] m) 9))) := (Below.refl _ w).alloc (Nat.le_refl _) _
  have HR0 : Hid ((w.alloc (.cells (madeCells #[.string ⟨#[]⟩] m) 9)).rowIs w.heap.size 9 m (stV F 0)) := (World.rowIs_made w _ m _).congr (fun i _ => by unfold stV; rw [if_neg (by omega)])
  have hSI : (Tryd.prog.info? 9).map (fun i => (i.zero, i.size, i.bytes)) = some (some (.string ⟨#[]⟩), 1, 16) := by kernel_rfl
  obtain ⟨i0, hi, hz0, hz1, hz2⟩ := info_parts hSI
  clear hh hO hSI
  go_enter Tryd.func30, Tryd.ntmps30
  go_wp2_with (refine wpList_make_row _ rfl _ _ _ rfl 9 i0 (.string ⟨#[]⟩) Tryd.underlying57 hi hz0 hz1 rfl .i64 .i64 m rfl rfl (by rw [hz2]; omega) (by omega) ?_)
  clear e4 e4'
  generalize w.alloc (.cells (madeCells #[.string ⟨#[]⟩] m) 9) = W0 at *
  obtain ⟨K0, hK0⟩ : ∃ K0, K0 = w.heap.size := ⟨_, rfl⟩
  rw [← hK0] at HR0
  rw [← hK0]
  have HK0 := hid hK0
  clear hK0
  go_loopw [4, 16] (fun _ iv wr => ∃ (k : Nat), k ≤ m ∧ iv = .int .i64 k ∧ Hid (wr.rowIs K0 9 m (stV F k)) ∧ Hid (Below w.heap.size w wr)) (fun _ iv _ => m - (intOf iv).toNat)
  case atStart => exact ⟨0, Nat.zero_le _, rfl, HR0, HB0⟩
  case round =>
    obtain ⟨k, hk, rfl, hR, hbel⟩ := hrel
    by_cases hlt : k < m
    · have hlt2 : (k : Int) < (m : Int) := by omega
      have hks : IntKind.i64.wrap ((k : Int) + 1) = (k : Int) + 1 := by rw [IntKind.wrap_i64]; omega
      have HC := hid (HO.out wr hbel.out k hlt)
      have HN : Hid (∀ W, Below wr.heap.size wr W → W.rowIs K0 9 m (stV F k)) := fun W hW => by
        obtain ⟨cs, h1, h2⟩ := hR.out
        exact ⟨cs, (hW.block K0 (Array.getElem?_eq_some_iff.1 h1).1).trans h1, h2⟩
      have HS : Hid (∀ W : World, W.rowIs K0 9 m (stV F k) → (W.setCell ⟨K0, k, none⟩ (.string (bs (F k)))).rowIs K0 9 m (stV F (k + 1))) := fun W h => (h.set k (.string (bs (F k)))).congr (fun i _ => by
        by_cases e : i = k
        · rw [if_pos e, e]; unfold stV; rw [if_pos (by omega)]
        · rw [if_neg e]; unfold stV
          by_cases e2 : i < k
          · rw [if_pos e2, if_pos (by omega)]
          · rw [if_neg e2, if_neg (by omega)])
      generalize bs (F k) = S at *
      clear hR
      go_wp2_with fail
      refine HC.out.mono ?_
      rintro e w2 ⟨rfl, hb2⟩
      have hR2 := HN.out w2 hb2
      have r1 := hR2.cell (i := k) hlt
      have r2 := hR2.frozen k
      have HR3 := hid (HS.out w2 hR2)
      have HB3 : Hid (Below w.heap.size w (w2.setCell ⟨K0, k, none⟩ (.string S))) := by
        have h1 := hbel.out.trans (hb2.mono hbel.out.size)
        exact ⟨h1.os, h1.tape, h1.output, by simpa [World.setCell] using h1.size, fun j hj => (Below.heap_setCell _ _ _ _ (by show j ≠ K0; have := HK0.out; omega)).trans (h1.block j hj)⟩
      unfold stV at r1
      clear hb2 hR2 HC HN HS hbel
      go_wp2_with fail
      go_roundw
      case rel => exact ⟨k + 1, by omega, by go_num, HR3, HB3⟩
      case measure => simp [intOf]; omega
    · obtain rfl : k = m := by omega
      have hlt2 : ¬ (k : Int) < (k : Int) := by omega
      go_wp2_with fail
      go_ret
      exact ⟨K0, rfl, hR.out, hbel.out⟩

end Go.Proofs.YthpkcageimhgaaaDoor

namespace Go.Proofs.YthpkcageimhgaaaDoor
open Go.RowKit

set_option maxRecDepth 100000 in
set_option maxHeartbeats 4000000 in
theorem ptx_call (it : Nat → List UInt8) (Ctx : World → Prop) (B : Nat → Prop) (N : Nat) (hit : ∀ n, n ≤ 9223372036854775807 → (it n).length ≤ 20) (hCx : ∀ W W', Ctx W → Below W.heap.size W W' → Ctx W') (_hIt : ∀ (n : Nat) (W : World), n ≤ 9223372036854775807 → Ctx W → Calls Tryd.prog 29 #[.int .i64 (n : Int)] W fun e w' => e = .returned (.string (bs (it n))) ∧ Below W.heap.size W w') (hN : N < 1000000) (ih : PTX it Ctx B N) (kd : Nat) (nm : List UInt8) (at' nn : Nat) (kids : List Tr) (x : Value) (w : World) (h : 1 + tszs kids ≤ N + 1) (hT : TW (.node kd nm at' nn kids)) (hC : Ctx w) (hX : PTB B w (.node kd nm at' nn kids) x) (hkd : kd = 2) :
    Calls Tryd.prog 18 #[x] w fun e w' => e = .returned (.string (bs (inK it kd nm nn (inTs it kids)))) ∧ Below w.heap.size w w' := by
  obtain ⟨hsh, hTs⟩ := hT
  obtain ⟨b, ax, cx, rfl, hb, hh, hK⟩ := hX
  have HOW : Hid (∀ (W : World), Below w.heap.size w W → ∀ (i rk least : Nat) (t : Tr), kids[i]? = some t → i ≤ 4000 → rkl rk least → Calls Tryd.prog 31 #[.pointer (some ⟨b, 0, none⟩), .int .i64 (i : Int), .int .i64 (rk : Int)] W fun e w' => e = .returned (.string (bs (kt (inTs it kids) i least))) ∧ Below w.heap.size w w') := fun W hW i rk least t ht hi hr => by
    have hkl := kid_lt kids i t ht
    have hTt := hTs.at ht
    have hl := inT_len it hit t hTt
    refine (pown_of it Ctx B N ih b kd at' nn i rk least cx nm ax kids t W hr (by omega) hTt (hCx _ _ hC hW) hi ((hW.block b (Array.getElem?_eq_some_iff.1 hh).1).trans hh) (PTBs.keep (fun b hB hl => ⟨hB, hW.block b hl⟩) _ _ _ hK) ht (by omega)).mono fun e w' ⟨h1, h2⟩ => ⟨h1, hW.trans (h2.mono hW.size)⟩
  have HKL : Hid (∀ (i least : Nat), (bs (kt (inTs it kids) i least)).size ≤ 50000000) := fun i least => by
    rw [bs_size]
    cases hi : kids[i]? with
    | none => unfold kt; rw [inTs_at, hi]; simp
    | some t =>
      rw [kt_at it hi]
      have h1 := par_len (hld (knd t)) least (inT it t)
      have h2 := inT_len it hit t (hTs.at hi)
      have h3 := kid_lt kids i t hi
      omega
  have hns : (bs nm).size ≤ 16 := by
    rw [bs_size]
    rcases hsh with h | h | h | h | h | h | h
    · rw [h.2.1]; simp
    · exact h.2.1.2.1
    · exact h.2.1.2.1
    · rw [h.2.1]; simp
    · rw [h.2.2.1]; simp
    · exact h.2.1.2.1
    · rw [h.2.2.1]; simp
  have e0 : w.cell? ⟨b, 0, none⟩ = some (.int .i64 (kd : Int)) := by simp [World.cell?, hh]
  have e1 : w.cell? ⟨b, 1, none⟩ = some (.string (bs nm)) := by simp [World.cell?, hh]
  have HB0 : Hid (Below w.heap.size w w) := Below.refl _ _
  have HE : Hid (bs (inK it kd nm nn (inTs it kids)) = bs nm ++ (⟨#[40]⟩ : ByteArray) ++ bs (jnF (fun i => kt (inTs it kids) i 0) kids.length) ++ (⟨#[41]⟩ : ByteArray)) := by
    unfold Hid inK
    rw [if_neg (by omega), if_neg (by omega), if_pos hkd, inTs_len, jnC_F]
    simp only [← bs_app]
    rfl
  have hml : kids.length ≤ 4000 := by rcases hsh with h | h | h | h | h | h | h <;> omega
  have hjl : (jnF (fun i => kt (inTs it kids) i 0) kids.length).length ≤ 50000000 := by
    rw [← jnC_F]
    have h1 := jnC_len (inTs it kids) kids.length (by rw [inTs_len]; exact Nat.le_refl _)
    have h2 := inTs_smL it hit kids hTs
    rw [show (inTs it kids).take kids.length = inTs it kids from by rw [← inTs_len it kids, List.take_length]] at h1
    omega
  have HAR : Hid (∀ W, Below w.heap.size w W → Calls Tryd.prog 30 #[.pointer (some ⟨b, 0, none⟩)] W fun e w' => ∃ K, e = .returned (.slice (some ⟨K, 0, none⟩) kids.length kids.length) ∧ w'.rowIs K 9 kids.length (stV (fun i => kt (inTs it kids) i 0) kids.length) ∧ Below w.heap.size w w') := fun W hW =>
    (pargs_of (fun i => kt (inTs it kids) i 0) b kd at' nn kids.length cx nm ax W hml ((hW.block b (Array.getElem?_eq_some_iff.1 hh).1).trans hh) (fun W2 hW2 i hi => by
      obtain ⟨t, ht⟩ : ∃ t, kids[i]? = some t := ⟨_, List.getElem?_eq_getElem hi⟩
      have hb2 := hW.trans (hW2.mono hW.size)
      have hkl := kid_lt kids i t ht
      have hTt := hTs.at ht
      have hl := inT_len it hit t hTt
      exact pown_of it Ctx B N ih b kd at' nn i 0 0 cx nm ax kids t W2 rkl0 (by omega) hTt (hCx _ _ hC hb2) (by omega) ((hb2.block b (Array.getElem?_eq_some_iff.1 hh).1).trans hh) (PTBs.keep (fun b hB hl => ⟨hB, hb2.block b hl⟩) _ _ _ hK) ht (by omega))).mono fun e w' ⟨K, h1, h2, h3⟩ => ⟨K, h1, h2, hW.trans (h3.mono hW.size)⟩
  have HJN : Hid (∀ (K : Nat) (W : World), W.rowIs K 9 kids.length (stV (fun i => kt (inTs it kids) i 0) kids.length) → Below w.heap.size w W → Calls Tryd.prog 16 #[.slice (some ⟨K, 0, none⟩) kids.length kids.length, .string ⟨#[44, 32]⟩] W fun e w' => e = .returned (.string (bs (jnF (fun i => kt (inTs it kids) i 0) kids.length))) ∧ Below w.heap.size w w') := fun K W hR hW =>
    (pjoin_any _ K kids.length W hml hR (by omega)).mono fun e w' ⟨h1, h2⟩ => ⟨h1, hW.trans (h2.mono hW.size)⟩
  have hjz : (bs (jnF (fun i => kt (inTs it kids) i 0) kids.length)).size ≤ 50000000 := by rw [bs_size]; exact hjl
  generalize bs (inK it kd nm nn (inTs it kids)) = RES at *
  generalize bs (jnF (fun i => kt (inTs it kids) i 0) kids.length) = S0 at *
  generalize stV (fun i => kt (inTs it kids) i 0) kids.length = FS at *
  generalize kids.length = m at *
  generalize bs nm = ns at *
  have z1 : ¬ 9223372036854775807 < ns.size + 1 := by omega
  have z2 : ¬ 9223372036854775807 < ns.size + 1 + S0.size := by omega
  have z3 : ¬ 9223372036854775807 < ns.size + 1 + S0.size + 1 := by omega
  have HKE : Hid (∀ W, Below w.heap.size w W → W.cell? ⟨b, 1, none⟩ = some (.string ns)) := fun W hW => (hW.cell (p := ⟨b, 1, none⟩) (World.block_lt_of_cell? _ _ e1)).trans e1
  have hd1 : Below w.heap.size w w.drew := (Below.refl _ _).drew
  subst hkd
  clear hh hK hTs hb hsh HKL HOW hns ih _hIt hCx hit hN hC h hml hjl hjz HB0
  go_enter Tryd.func18, Tryd.ntmps18
  go_wp2_with fail
  go_region_held3 (fun W => W.cell? ⟨b, 1, none⟩ = some (.string ns)) (exact HKE.out _ (by assumption))
    (first
      | (go_at_call 30; refine (HAR.out _ (by assumption)).mono ?_; rintro e w1 ⟨K, rfl, hR1, hb1⟩)
      | (go_at_call 16; refine (HJN.out _ _ hR1 (by assumption)).mono ?_; rintro e w2 ⟨rfl, hb2⟩))
  have HBZ := hid hb2
  go_wp2_with fail
  go_ret
  exact ⟨by rw [HE.out]; rfl, HBZ.out⟩

theorem ptx_all (it : Nat → List UInt8) (Ctx : World → Prop) (B : Nat → Prop) (hit : ∀ n, n ≤ 9223372036854775807 → (it n).length ≤ 20) (hCx : ∀ W W', Ctx W → Below W.heap.size W W' → Ctx W') (hIt : ∀ (n : Nat) (W : World), n ≤ 9223372036854775807 → Ctx W → Calls Tryd.prog 29 #[.int .i64 (n : Int)] W fun e w' => e = .returned (.string (bs (it n))) ∧ Below W.heap.size W w') : ∀ N, N ≤ 1000000 → PTX it Ctx B N := by
  intro N
  induction N with
  | zero => intro _ t x w h; have := tsz_pos t; omega
  | succ N ih =>
    intro hN t x w h hT hC hX
    have ih := ih (by omega)
    obtain ⟨kd, nm, at', nn, kids⟩ := t
    rw [tsz] at h
    rw [inT]
    have hsh := hT.1
    rcases hsh with k | k | k | k | k | k | k
    · exact ptx_num it Ctx B N hit hCx hIt (by omega) ih kd nm at' nn kids x w h hT hC hX k.1
    · exact ptx_name it Ctx B N hit hCx hIt (by omega) ih kd nm at' nn kids x w h hT hC hX k.1
    · exact ptx_call it Ctx B N hit hCx hIt (by omega) ih kd nm at' nn kids x w h hT hC hX k.1
    · exact ptx_neg it Ctx B N hit hCx hIt (by omega) ih kd nm at' nn kids x w h hT hC hX k.1
    · have hq : kd = 4 ∨ kd = 5 ∨ kd = 6 ∨ kd = 7 ∨ kd = 8 := by omega
      rcases hq with q | q | q | q | q
      · exact ptx_sign4 it Ctx B N hit hCx hIt (by omega) ih kd nm at' nn kids x w h hT hC hX q
      · exact ptx_sign5 it Ctx B N hit hCx hIt (by omega) ih kd nm at' nn kids x w h hT hC hX q
      · exact ptx_sign6 it Ctx B N hit hCx hIt (by omega) ih kd nm at' nn kids x w h hT hC hX q
      · exact ptx_sign7 it Ctx B N hit hCx hIt (by omega) ih kd nm at' nn kids x w h hT hC hX q
      · exact ptx_eq it Ctx B N hit hCx hIt (by omega) ih kd nm at' nn kids x w h hT hC hX q
    · exact ptx_let it Ctx B N hit hCx hIt (by omega) ih kd nm at' nn kids x w h hT hC hX k.1
    · by_cases h10 : kd = 10
      · exact ptx_need it Ctx B N hit hCx hIt (by omega) ih kd nm at' nn kids x w h hT hC hX h10
      · exact ptx_if it Ctx B N hit hCx hIt (by omega) ih kd nm at' nn kids x w h hT hC hX (by omega)

end Go.Proofs.YthpkcageimhgaaaDoor
