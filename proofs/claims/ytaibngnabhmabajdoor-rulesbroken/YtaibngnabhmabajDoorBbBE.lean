/- Package rules: of which rows a rule speaks; whether rows are wide. Package rules: the first rule that does not hold in a row. Package rules: Broken. -/
import Derived.Test.YtaibngnabhmabajDoorBbBD
namespace Go.Proofs.YtaibngnabhmabajDoor
open Go.RowKit Go.Maps

/-- of which rows a rule speaks, by a number -/
def rkd (l k : Nat) : Int := if k < l + 12 then 0 else if k < l + 18 then 1 else if k < l + 24 then 2 else 3
/-- is a row one of these? -/
def hasB (kd : Int) (i n : Nat) : Bool := if kd = 1 then decide (i ≠ n) else if kd = 2 then decide (i = 0) else if kd = 3 then decide (i = n) else true
theorem hasB_spk (l n i k : Nat) : hasB (rkd l k) i (n - 1) = spk l n i k := by
  unfold hasB rkd spk
  by_cases h1 : k < l + 12
  · simp [h1]
  · by_cases h2 : k < l + 18
    · simp [h1, h2]
    · by_cases h3 : k < l + 24
      · simp [h1, h2, h3]
      · simp [h1, h2, h3]
theorem rkd_cases (l k : Nat) : rkd l k = 0 ∨ rkd l k = 1 ∨ rkd l k = 2 ∨ rkd l k = 3 := by
  unfold rkd
  split
  · exact .inl rfl
  · split
    · exact .inr (.inl rfl)
    · split
      · exact .inr (.inr (.inl rfl))
      · exact .inr (.inr (.inr rfl))

set_option maxRecDepth 100000 in
set_option maxHeartbeats 2000000 in
theorem prowsOf_any (size : Int) (aL : Option Addr) (nL cL k : Nat) (w : World) (hn : nL ≤ 4398046511104) :
    Calls Tryd.prog 21 #[.agg #[.int .i64 size, .slice aL nL cL], .int .i64 (k : Int)] w fun e w' => e = .returned (.int .i64 (rkd nL k)) ∧ Below w.heap.size w w' := by
  have HB0 : Hid (Below w.heap.size w (w.alloc (.cells #[.int .i64 size, .slice aL nL cL] 24))) := (Below.refl _ _).alloc (Nat.le_refl _) _
  have w12 : IntKind.i64.wrap ((nL : Int) + 12) = (nL : Int) + 12 := by rw [IntKind.wrap_i64]; omega
  have w18 : IntKind.i64.wrap ((nL : Int) + 18) = (nL : Int) + 18 := by rw [IntKind.wrap_i64]; omega
  have w24 : IntKind.i64.wrap ((nL : Int) + 24) = (nL : Int) + 24 := by rw [IntKind.wrap_i64]; omega
  obtain ⟨R, hR⟩ : ∃ R, R = rkd nL k := ⟨_, rfl⟩
  rw [← hR]
  by_cases h1 : k < nL + 12
  · have HE : Hid (R = 0) := by unfold Hid; rw [hR]; simp [rkd, h1]
    have q1 : (k : Int) < (nL : Int) + 12 := by omega
    clear hR h1 hn
    go_enter Tryd.func21, Tryd.ntmps21
    go_wp2_with fail
    go_ret
    exact ⟨by have h := HE.out; subst h; rfl, HB0.out⟩
  · by_cases h2 : k < nL + 18
    · have HE : Hid (R = 1) := by unfold Hid; rw [hR]; simp [rkd, h1, h2]
      have q1 : ¬ (k : Int) < (nL : Int) + 12 := by omega
      have q2 : (k : Int) < (nL : Int) + 18 := by omega
      clear hR h1 h2 hn
      go_enter Tryd.func21, Tryd.ntmps21
      go_wp2_with fail
      go_ret
      exact ⟨by have h := HE.out; subst h; rfl, HB0.out⟩
    · by_cases h3 : k < nL + 24
      · have HE : Hid (R = 2) := by unfold Hid; rw [hR]; simp [rkd, h1, h2, h3]
        have q1 : ¬ (k : Int) < (nL : Int) + 12 := by omega
        have q2 : ¬ (k : Int) < (nL : Int) + 18 := by omega
        have q3 : (k : Int) < (nL : Int) + 24 := by omega
        clear hR h1 h2 h3 hn
        go_enter Tryd.func21, Tryd.ntmps21
        go_wp2_with fail
        go_ret
        exact ⟨by have h := HE.out; subst h; rfl, HB0.out⟩
      · have HE : Hid (R = 3) := by unfold Hid; rw [hR]; simp [rkd, h1, h2, h3]
        have q1 : ¬ (k : Int) < (nL : Int) + 12 := by omega
        have q2 : ¬ (k : Int) < (nL : Int) + 18 := by omega
        have q3 : ¬ (k : Int) < (nL : Int) + 24 := by omega
        clear hR h1 h2 h3 hn
        go_enter Tryd.func21, Tryd.ntmps21
        go_wp2_with fail
        go_ret
        exact ⟨by have h := HE.out; subst h; rfl, HB0.out⟩

set_option maxRecDepth 100000 in
set_option maxHeartbeats 2000000 in
theorem phas_any (kd : Int) (i n : Nat) (w : World) (hk : kd = 0 ∨ kd = 1 ∨ kd = 2 ∨ kd = 3) :
    Calls Tryd.prog 22 #[.int .i64 kd, .int .i64 (i : Int), .int .i64 (n : Int)] w fun e w' => e = .returned (.bool (hasB kd i n)) ∧ w' = w := by
  obtain ⟨R, hR⟩ : ∃ R, R = hasB kd i n := ⟨_, rfl⟩
  rw [← hR]
  rcases hk with rfl | rfl | rfl | rfl
  · have HE : Hid (R = true) := by unfold Hid; rw [hR]; rfl
    clear hR
    go_enter Tryd.func22, Tryd.ntmps22
    go_wp2_with fail
    go_ret
    exact ⟨by have h := HE.out; subst h; rfl, rfl⟩
  · have HE : Hid (R = ((i : Int) != (n : Int))) := by
      unfold Hid; rw [hR]; unfold hasB
      by_cases e : i = n
      · subst e; simp
      · have : ¬ (i : Int) = (n : Int) := by omega
        simp [e, this]
    clear hR
    go_enter Tryd.func22, Tryd.ntmps22
    go_wp2_with fail
    go_ret
    exact ⟨by have h := HE.out; subst h; rfl, rfl⟩
  · have HE : Hid (R = ((i : Int) == 0)) := by
      unfold Hid; rw [hR]; unfold hasB
      by_cases e : i = 0
      · subst e; simp
      · simp [e]
    clear hR
    obtain ⟨q, hq⟩ : ∃ q, q = ((i : Int) == 0) := ⟨_, rfl⟩
    have hq' := hq.symm
    rw [← hq] at HE
    clear hq
    go_enter Tryd.func22, Tryd.ntmps22
    go_wp2_with fail
    go_ret
    exact ⟨by have h := HE.out; subst h; first | rfl | (cases q <;> rfl), rfl⟩
  · have HE : Hid (R = ((i : Int) == (n : Int))) := by
      unfold Hid; rw [hR]; unfold hasB
      by_cases e : i = n
      · subst e; simp
      · have : ¬ (i : Int) = (n : Int) := by omega
        simp [e, this]
    clear hR
    obtain ⟨q, hq⟩ : ∃ q, q = ((i : Int) == (n : Int)) := ⟨_, rfl⟩
    have hq' := hq.symm
    rw [← hq] at HE
    clear hq
    go_enter Tryd.func22, Tryd.ntmps22
    go_wp2_with fail
    go_ret
    exact ⟨by have h := HE.out; subst h; first | rfl | (cases q <;> rfl), rfl⟩

/-- is every row so wide? -/
def wdB (m : Nat) (rows : List (List Int)) : Bool := rows.all fun r => r.length == m
theorem wdB_yes {m : Nat} {rows : List (List Int)} (h : ∀ k, k < rows.length → (rat rows k).length = m) : wdB m rows = true := by
  unfold wdB
  rw [List.all_eq_true]
  intro r hr
  obtain ⟨k, hk, rfl⟩ := List.getElem_of_mem hr
  have := h k hk
  simp [rat, hk] at this
  simpa using this
theorem wdB_no {m k : Nat} {rows : List (List Int)} (hk : k < rows.length) (h : (rat rows k).length ≠ m) : wdB m rows = false := by
  unfold wdB
  rw [List.all_eq_false]
  refine ⟨rows[k], List.getElem_mem hk, ?_⟩
  simp [rat, hk] at h
  simpa using h
theorem wdB_at {m : Nat} {rows : List (List Int)} (h : wdB m rows = true) {k : Nat} (hk : k < rows.length) : (rat rows k).length = m := by
  rcases Nat.decEq (rat rows k).length m with e | e
  · rw [wdB_no hk e] at h; cases h
  · exact e
set_option maxRecDepth 100000 in
set_option maxHeartbeats 2000000 in
theorem pisWide_any (c m : Nat) (a : Option Addr) (rows : List (List Int)) (w : World) (hL : LstR w.heap.size w a c rows) (hn : rows.length ≤ 281474976710656) :
    Calls Tryd.prog 12 #[.slice a rows.length c, .int .i64 (m : Int)] w fun e w' => e = .returned (.bool (wdB m rows)) ∧ w' = w := by
  have HL := hid hL
  obtain ⟨n, hn'⟩ : ∃ n, n = rows.length := ⟨_, rfl⟩
  have HN := hid hn'
  rw [← hn'] at hn ⊢
  obtain ⟨R, hR⟩ : ∃ R, R = wdB m rows := ⟨_, rfl⟩
  have HR := hid hR
  rw [← hR]
  clear hL hn' hR
  go_enter Tryd.func12, Tryd.ntmps12
  go_wp2_with fail
  go_loop [9] (fun iv => ∃ i : Nat, i ≤ n ∧ iv = .int .i64 i ∧ Hid (∀ k, k < i → (rat rows k).length = m)) (fun iv => n - (intOf iv).toNat)
  case atStart => exact ⟨0, Nat.zero_le _, rfl, fun k hk => by omega⟩
  case round =>
    obtain ⟨i, hi, rfl, HG⟩ := hrel
    by_cases hlt : i < n
    · have hlt2 : (i : Int) < (n : Int) := by omega
      have his : IntKind.i64.wrap ((i : Int) + 1) = (i : Int) + 1 := by rw [IntKind.wrap_i64]; omega
      obtain ⟨g, o, ak, ck, rfl, hg0, hc, _⟩ := HL.out.row i (by have := HN.out; omega)
      by_cases he : (rat rows i).length = m
      · have HG2 : Hid (∀ k, k < i + 1 → (rat rows k).length = m) := fun k hk => by
          by_cases e : k = i
          · subst e; exact he
          · exact HG.out k (by omega)
        have q : (((rat rows i).length : Int) == (m : Int)) = true := by simp [he]
        clear he
        generalize (rat rows i).length = rl at *
        go_wp2_with fail
        go_round
        case rel => exact ⟨i + 1, by omega, by go_num, HG2⟩
        case measure => simp [intOf]; omega
      · have HE : Hid (R = false) := by unfold Hid; rw [HR.out]; exact wdB_no (by have := HN.out; omega) he
        have q : (((rat rows i).length : Int) == (m : Int)) = false := by rw [beq_eq_false_iff_ne]; omega
        clear he
        generalize (rat rows i).length = rl at *
        go_wp2_with fail
        go_ret
        exact ⟨by have h := HE.out; subst h; rfl, rfl⟩
    · obtain rfl : i = n := by omega
      have hlt2 : ¬ (i : Int) < (i : Int) := by omega
      have HE : Hid (R = true) := by unfold Hid; rw [HR.out]; exact wdB_yes (fun k hk => HG.out k (by have := HN.out; omega))
      go_wp2_with fail
      go_ret
      exact ⟨by have h := HE.out; subst h; rfl, rfl⟩

end Go.Proofs.YtaibngnabhmabajDoor

namespace Go.Proofs.YtaibngnabhmabajDoor
open Go.RowKit Go.Maps

/-- what is known of rows -/
structure RwF (p : Nat) (L : List InsZ) (size out : Int) (rows : List (List Int)) : Prop where
  h3 : 3 ≤ p
  h4 : p ≤ 2147483647
  wd : ∀ k, k < rows.length → (rat rows k).length = 20 + L.length
  ft : ∀ k j, k < rows.length → I64 (zat (rat rows k) j)
  hI : InsB L
  hl : L.length ≤ 4398046511104
  h1 : 1 ≤ L.length
  hsz : I64 size
  hout : I64 out
theorem RwF.view {p : Nat} {L : List InsZ} {size out : Int} {rows : List (List Int)} (h : RwF p L size out rows) {i j : Nat} (hi : i < rows.length) (hj : j < rows.length) : VF p L size out (rat rows i) (rat rows j) :=
  ⟨h.h3, h.h4, h.wd i hi, h.wd j hj, fun k => h.ft i k hi, fun k => h.ft j k hj, h.hI, h.hl, h.h1, h.hsz, h.hout⟩

theorem zat_memP {l : List Int} {P : Int → Prop} (h0 : P 0) (h : ∀ x, x ∈ l → P x) (j : Nat) : P (zat l j) := by
  by_cases hj : j < l.length
  · have : zat l j = l[j] := by simp [zat, hj]
    rw [this]; exact h _ (List.getElem_mem hj)
  · have : zat l j = 0 := by simp [zat, List.getElem?_eq_none (Nat.not_lt.1 hj)]
    rw [this]; exact h0

set_option maxRecDepth 100000 in
set_option maxHeartbeats 8000000 in
theorem pbrokenIn_any (p b : Nat) (L : List InsZ) (size out : Int) (rows : List (List Int)) (aL : Option Addr) (cL : Nat) (ad : Option Addr) (c i : Nat) (w : World) (H : RwF p L size out rows) (hp : w.cell? ⟨b, 0, none⟩ = some (.int .i64 p)) (hI : LstI w.heap.size w aL cL L) (hL : LstR w.heap.size w ad c rows) (hn : rows.length ≤ 5864062014634) (hi : i < rows.length) :
    Calls Tryd.prog 14 #[.pointer (some ⟨b, 0, none⟩), .agg #[.int .i64 size, .slice aL L.length cL], .int .i64 out, .slice ad rows.length c, .int .i64 (i : Int)] w fun e w' => ∃ z, e = .returned (.int .i64 z) ∧ FstB (brkn p L size out rows i) (L.length + 26) z ∧ Below w.heap.size w w' := by
  obtain ⟨R, hR⟩ : ∃ R : Ending → World → Prop, R = fun e w' => ∃ z, e = .returned (.int .i64 z) ∧ FstB (brkn p L size out rows i) (L.length + 26) z ∧ Below w.heap.size w w' := ⟨_, rfl⟩
  rw [← hR]
  have HRR : Hid (∀ (z : Int) W, FstB (brkn p L size out rows i) (L.length + 26) z → Below w.heap.size w W → R (.returned (.int .i64 z)) W) := fun z W h1 h2 => by rw [hR]; exact ⟨z, rfl, h1, h2⟩
  obtain ⟨W0, hW0⟩ : ∃ W0, W0 = w.alloc (.cells #[.int .i64 size, .slice aL L.length cL] 24) := ⟨_, rfl⟩
  have hb0 : Below w.heap.size w W0 := by rw [hW0]; exact (Below.refl _ _).alloc (Nat.le_refl _) _
  have hs0 : W0.heap[w.heap.size]? = some (.cells #[.int .i64 size, .slice aL L.length cL] 24 (0, 0)) := by rw [hW0]; exact heap_alloc_new w _
  obtain ⟨C, hC⟩ : ∃ C, C = w.heap.size := ⟨_, rfl⟩
  rw [← hC] at hs0
  have hCl : C < W0.heap.size := (Array.getElem?_eq_some_iff.1 hs0).1
  have HB0 := hid hb0
  obtain ⟨mi, hmi⟩ : ∃ mi, mi = min (i + 1) (rows.length - 1) := ⟨_, rfl⟩
  have hmil : mi < rows.length := by omega
  obtain ⟨g, o, ak, ck, rfl, hg0, hc1, hrl1⟩ := hL.row i hi
  obtain ⟨g', o', an, cn, hgo, _, hc2, hrl2⟩ := hL.row mi hmil
  injection hgo with hgo
  injection hgo with hg' ho'
  subst hg' ho'
  have hln := H.wd i hi
  have hln2 := H.wd mi hmil
  have HSA : Hid (∀ W, Below w.heap.size w W → Calls Tryd.prog 20 #[.pointer (some ⟨b, 0, none⟩), .agg #[.int .i64 size, .slice aL L.length cL], .int .i64 out, .slice ak (rat rows i).length ck, .slice an (rat rows mi).length cn] W fun e w' => ∃ v, e = .returned v ∧ w'.ownsRow W.heap.size 3 1 v (rls p L size out (rat rows i) (rat rows mi)).length ((rls p L size out (rat rows i) (rat rows mi)).map (Value.int .i64)) ∧ Below W.heap.size W w') := fun W h =>
    psaid_any p b L size out (rat rows i) (rat rows mi) aL cL ak ck an cn W (H.view hi hmil) ((h.cell (p := ⟨b, 0, none⟩) (World.block_lt_of_cell? _ _ hp)).trans hp) ((hI.below h).mono h.size) (RowB.mono h.size (RowB.below h hrl1.row)) (RowB.mono h.size (RowB.below h hrl2.row))
  have HVL : Hid (∀ k, zat (rls p L size out (rat rows i) (rat rows mi)) k = rvl p L size out rows i k) := fun k => by rw [hmi]; rfl
  have HBD : Hid (∀ k, 0 ≤ zat (rls p L size out (rat rows i) (rat rows mi)) k ∧ zat (rls p L size out (rat rows i) (rat rows mi)) k < (p : Int)) := fun k => by
    have h3 := H.h3
    refine zat_memP (P := fun x => 0 ≤ x ∧ x < (p : Int)) (by omega) (rls_bd H.h3 L size out _ _) k
  have HLEN := hid (rls_len p L size out (rat rows i) (rat rows mi))
  obtain ⟨sd, hsd⟩ : ∃ sd, sd = rls p L size out (rat rows i) (rat rows mi) := ⟨_, rfl⟩
  rw [← hsd] at HSA HVL HBD HLEN
  have HX : Hid (∀ W, Below W0.heap.size W0 W → (W.cell? ⟨C, 0, none⟩ = some (.int .i64 size) ∧ W.cell? ⟨C, 1, none⟩ = some (.slice aL L.length cL) ∧ W.cell? ⟨g, o + i, none⟩ = some (.slice ak (rat rows i).length ck) ∧ W.cell? ⟨g, o + mi, none⟩ = some (.slice an (rat rows mi).length cn))) := fun W h => by
    have h5 := (h.block C hCl).trans hs0
    have hbw := hb0.trans (h.mono hb0.size)
    exact ⟨by simp [World.cell?, h5], by simp [World.cell?, h5], (hbw.cell (p := ⟨g, o + i, none⟩) hg0).trans hc1, (hbw.cell (p := ⟨g, o + mi, none⟩) hg0).trans hc2⟩
  have HRO := hid (fun (k : Nat) W => prowsOf_any size aL L.length cL k W H.hl)
  have hl := H.hl
  obtain ⟨nL, hnL⟩ : ∃ nL, nL = L.length := ⟨_, rfl⟩
  obtain ⟨n, hn'⟩ : ∃ n, n = rows.length := ⟨_, rfl⟩
  obtain ⟨la, hla⟩ : ∃ la, la = n - 1 := ⟨_, rfl⟩
  have HSPK : Hid (∀ k, hasB (rkd nL k) i la = spk L.length rows.length i k) := fun k => by rw [hla, hnL, hn']; exact hasB_spk _ _ _ _
  have hln3 : (rat rows i).length = 20 + nL := by rw [hnL]; exact hln
  have hln4 : (rat rows mi).length = 20 + nL := by rw [hnL]; exact hln2
  obtain ⟨rl, hrl⟩ : ∃ rl, rl = 20 + nL := ⟨_, rfl⟩
  rw [hln3, hln4, ← hrl] at HSA HX
  rw [← hnL] at HSA HX HLEN HRO HRR hl hW0 ⊢
  rw [← hn'] at hn hi hmil hmi ⊢
  have HMI : Hid (((i : Int) + 1 ≤ (la : Int) ∧ (mi : Int) = (i : Int) + 1) ∨ (¬ (i : Int) + 1 ≤ (la : Int) ∧ (mi : Int) = (la : Int))) := by unfold Hid; omega
  have e1 : (n : Int) - 1 = (la : Int) := by omega
  have w1 : IntKind.i64.wrap (la : Int) = (la : Int) := by rw [IntKind.wrap_i64]; omega
  have w2 : IntKind.i64.wrap ((i : Int) + 1) = (i : Int) + 1 := by rw [IntKind.wrap_i64]; omega
  have li : (i : Int) < (n : Int) := by omega
  have lm : (mi : Int) < (n : Int) := by omega
  have HLM : Hid (sd.length = nL + 26) := HLEN.out
  have HBR : Hid (∀ k, brkn p L size out rows i k = (decide (zat sd k ≠ 0) && spk L.length rows.length i k)) := fun k => by rw [HVL.out]; rfl
  clear hR H hp hI hL hs0 hb0 hln hln2 hln3 hln4 hrl1 hrl2 hc1 hc2 hg0 hmil hmi hi hsd hnL hn' hla hrl HVL HLEN
  go_enter Tryd.func14, Tryd.ntmps14
  go_wp2_with fail
  rw [← hW0, ← hC]
  clear hW0 hC
  obtain ⟨x0, x1, x2, x3⟩ := HX.out W0 (Below.refl _ _)
  refine wp_region_held_drew (S := (fun W => W.cell? ⟨C, 0, none⟩ = some (.int .i64 size) ∧ W.cell? ⟨C, 1, none⟩ = some (.slice aL nL cL) ∧ W.cell? ⟨g, o + i, none⟩ = some (.slice ak rl ck) ∧ W.cell? ⟨g, o + mi, none⟩ = some (.slice an rl cn))) (by kernel_rfl) ⟨x0, x1, x2, x3⟩ (fun hHeld => ?_)
  refine wpAnyH_takeU (i := 0) (v := .pointer (some ⟨b, 0, none⟩)) rfl (by kernel_rfl) (by kernel_rfl) (by kernel_rfl) (fun _ _ _ h => h) (by rfl) (fun W hC => by go_simp) hHeld ?_
  simp only [Act.put, List.setIfInBounds_toArray, List.set_cons_zero, List.set_cons_succ]
  refine wpAnyH_takeU (i := 1) (v := .agg #[.int .i64 size, .slice aL nL cL]) rfl (by kernel_rfl) (by kernel_rfl) (by kernel_rfl) (fun _ _ _ h => h) (by rfl) (fun W hC => by (obtain ⟨g0, g1, g2, g3⟩ := hC); go_simp) hHeld ?_
  simp only [Act.put, List.setIfInBounds_toArray, List.set_cons_zero, List.set_cons_succ]
  refine wpAnyH_takeU (i := 2) (v := .int .i64 out) rfl (by kernel_rfl) (by kernel_rfl) (by kernel_rfl) (fun _ _ _ h => h) (by rfl) (fun W hC => by go_simp) hHeld ?_
  simp only [Act.put, List.setIfInBounds_toArray, List.set_cons_zero, List.set_cons_succ]
  refine wpAnyH_takeU (i := 3) (v := .slice (some ⟨g, o, none⟩) n c) rfl (by kernel_rfl) (by kernel_rfl) (by kernel_rfl) (fun _ _ _ h => h) (by rfl) (fun W hC => by go_simp) hHeld ?_
  simp only [Act.put, List.setIfInBounds_toArray, List.set_cons_zero, List.set_cons_succ]
  refine wpAnyH_takeU (i := 4) (v := .int .i64 (i : Int)) rfl (by kernel_rfl) (by kernel_rfl) (by kernel_rfl) (fun _ _ _ h => h) (by rfl) (fun W hC => by go_simp) hHeld ?_
  simp only [Act.put, List.setIfInBounds_toArray, List.set_cons_zero, List.set_cons_succ]
  refine wpAnyH_takeU (i := 5) (v := .pointer (some ⟨g, o + i, none⟩)) rfl (by kernel_rfl) (by kernel_rfl) (by kernel_rfl) (fun _ _ _ h => h) (by rfl) (fun W hC => by go_simp) hHeld ?_
  simp only [Act.put, List.setIfInBounds_toArray, List.set_cons_zero, List.set_cons_succ]
  refine wpAnyH_takeU (i := 6) (v := .slice ak rl ck) rfl (by kernel_rfl) (by kernel_rfl) (by kernel_rfl) (fun _ _ _ h => h) (by rfl) (fun W hC => by (obtain ⟨g0, g1, g2, g3⟩ := hC); go_simp) hHeld ?_
  simp only [Act.put, List.setIfInBounds_toArray, List.set_cons_zero, List.set_cons_succ]
  refine wpAnyH_takeU (i := 7) (v := .slice (some ⟨g, o, none⟩) n c) rfl (by kernel_rfl) (by kernel_rfl) (by kernel_rfl) (fun _ _ _ h => h) (by rfl) (fun W hC => by go_simp) hHeld ?_
  simp only [Act.put, List.setIfInBounds_toArray, List.set_cons_zero, List.set_cons_succ]
  refine wpAnyH_takeU (i := 8) (v := .int .i64 (i : Int)) rfl (by kernel_rfl) (by kernel_rfl) (by kernel_rfl) (fun _ _ _ h => h) (by rfl) (fun W hC => by go_simp) hHeld ?_
  simp only [Act.put, List.setIfInBounds_toArray, List.set_cons_zero, List.set_cons_succ]
  refine wpAnyH_takeU (i := 9) (v := .int .i64 ((i : Int) + 1)) rfl (by kernel_rfl) (by kernel_rfl) (by kernel_rfl) (fun _ _ _ h => h) (by rfl) (fun W hC => by go_simp) hHeld ?_
  simp only [Act.put, List.setIfInBounds_toArray, List.set_cons_zero, List.set_cons_succ]
  refine wpAnyH_takeU (i := 10) (v := .int .i64 (la : Int)) rfl (by kernel_rfl) (by kernel_rfl) (by kernel_rfl) (fun _ _ _ h => h) (by rfl) (fun W hC => by go_simp) hHeld ?_
  simp only [Act.put, List.setIfInBounds_toArray, List.set_cons_zero, List.set_cons_succ]
  refine wpAnyH_takeU (i := 11) (v := .int .i64 (mi : Int)) rfl (by kernel_rfl) (by kernel_rfl) (by kernel_rfl) (fun _ _ _ h => h) (by rfl) (fun W hC => by rcases HMI.out with ⟨k1, k2⟩ | ⟨k1, k2⟩ <;> (go_simp; omega)) hHeld ?_
  simp only [Act.put, List.setIfInBounds_toArray, List.set_cons_zero, List.set_cons_succ]
  refine wpAnyH_takeU (i := 12) (v := .pointer (some ⟨g, o + mi, none⟩)) rfl (by kernel_rfl) (by kernel_rfl) (by kernel_rfl) (fun _ _ _ h => h) (by rfl) (fun W hC => by go_simp) hHeld ?_
  simp only [Act.put, List.setIfInBounds_toArray, List.set_cons_zero, List.set_cons_succ]
  refine wpAnyH_takeU (i := 13) (v := .slice an rl cn) rfl (by kernel_rfl) (by kernel_rfl) (by kernel_rfl) (fun _ _ _ h => h) (by rfl) (fun W hC => by (obtain ⟨g0, g1, g2, g3⟩ := hC); go_simp) hHeld ?_
  simp only [Act.put, List.setIfInBounds_toArray, List.set_cons_zero, List.set_cons_succ]
  refine wpAnyH_takeU (i := 16) (v := .int .i64 0) rfl (by kernel_rfl) (by kernel_rfl) (by kernel_rfl) (fun _ _ _ h => h) (by rfl) (fun W hC => by go_simp) hHeld ?_
  simp only [Act.put, List.setIfInBounds_toArray, List.set_cons_zero, List.set_cons_succ]
  refine wpAnyH_ready (rs := [14]) (by kernel_rfl) (by simp) ?_
  refine AllReadyH.consU rfl (fun K' hK' => ?_) AllReadyH.nil
  go_simp
  refine (HSA.out _ HB0.out.drew).mono ?_
  rintro e w1 ⟨v, rfl, hown, hb1⟩
  have hb01 : Below W0.heap.size W0 w1 := ⟨hb1.os, hb1.tape, hb1.output, hb1.size, hb1.block⟩
  obtain ⟨a1, c1, rfl, hl1⟩ := lst_of_owns hown
  have HB1 := hid hb01
  have HL1 := hid hl1
  refine hK'.out _ _ (HX.out _ hb01) (fun hHeld => ?_)
  clear hK' K' hown hl1 hb1 hb01
  (try simp only [Act.put, List.setIfInBounds_toArray, List.set_cons_zero, List.set_cons_succ])
  rw [HLM.out]
  obtain ⟨m, hm⟩ : ∃ m, m = nL + 26 := ⟨_, rfl⟩
  rw [← hm]
  have HM := hid hm
  clear hm
  refine wpAnyH_takeU (i := 15) (v := .int .i64 (m : Int)) rfl (by kernel_rfl) (by kernel_rfl) (by kernel_rfl) (fun _ _ _ h => h) (by rfl) (fun W hC => by go_simp) hHeld ?_
  simp only [Act.put, List.setIfInBounds_toArray, List.set_cons_zero, List.set_cons_succ]
  clear hHeld x0 x1 x2 x3
  refine wpAnyH_done (by kernel_rfl) ?_ _
  go_wp2_with fail
  go_loopw [12, 13, 33] (fun _ _ iv wr => ∃ k : Nat, k ≤ m ∧ iv = .int .i64 k ∧ Hid (∀ j, j < k → brkn p L size out rows i j = false) ∧ Hid (Below w1.heap.size w1 wr)) (fun _ _ iv _ => m - (intOf iv).toNat)
  case atStart => exact ⟨0, Nat.zero_le _, rfl, fun j hj => by omega, Below.refl _ _⟩
  case round =>
    obtain ⟨k, hk, rfl, HZ, HBw⟩ := hrel
    have hmm := HM.out
    by_cases hlt : k < m
    · have hlt2 : (k : Int) < (m : Int) := by omega
      have hks : IntKind.i64.wrap ((k : Int) + 1) = (k : Int) + 1 := by rw [IntKind.wrap_i64]; omega
      obtain ⟨g1, o1, rfl, hg1, hc1⟩ := HL1.out.row k (by have := HLM.out; omega)
      have hcw := (HBw.out.cell (p := ⟨g1, o1 + k, none⟩) hg1).trans hc1
      have HB01 := hid (HB1.out.trans (HBw.out.mono HB1.out.size))
      obtain ⟨x0, x1, _, _⟩ := HX.out wr HB01.out
      have hbk := HBR.out k
      have HBT := hid (HB0.out.trans (HB01.out.mono HB0.out.size))
      by_cases h0 : zat sd k = 0
      · have q0 : (zat sd k == 0) = true := by simp [h0]
        have q0' : (zat sd k != 0) = false := by simp [h0]
        have HZ2 : Hid (∀ j, j < k + 1 → brkn p L size out rows i j = false) := fun j hj => by
          by_cases e : j = k
          · subst e; rw [hbk, h0]; rfl
          · exact HZ.out j (by omega)
        clear h0 hbk hc1 hg1 hmm
        generalize zat sd k = zk at *
        go_wp2_with fail
        go_roundw
        case rel => exact ⟨k + 1, by omega, by go_num, HZ2, HBw⟩
        case measure => simp [intOf]; omega
      · have q0 : (zat sd k == 0) = false := by simp [h0]
        have q0' : (zat sd k != 0) = true := by simp [h0]
        have HRK := hid (HRO.out k wr)
        have HHS := hid (fun W => phas_any (rkd nL k) i la W (rkd_cases _ _))
        have HBK : Hid (brkn p L size out rows i k = hasB (rkd nL k) i la) := by unfold Hid; rw [hbk, HSPK.out]; simp [h0]
        clear h0 hbk hc1 hg1 hmm
        generalize zat sd k = zk at *
        generalize rkd nL k = kd at *
        generalize hasB kd i la = hb at *
        go_wp2_with fail
        refine HRK.out.mono ?_
        rintro e w2 ⟨rfl, hb2⟩
        have HB2 := hid (HBw.out.trans (hb2.mono HBw.out.size))
        have HBT2 := hid (HBT.out.trans (hb2.mono HBT.out.size))
        clear hb2 HRK
        go_wp2_with fail
        refine (HHS.out _).mono ?_
        rintro e w3 ⟨rfl, hw3⟩
        have hw3' := hw3.symm
        subst hw3'
        clear hw3
        cases hb with
        | true =>
          have HE := hid (HRR.out (k : Int) w2 (.inr ⟨k, by have := HM.out; omega, rfl, HBK.out, HZ.out⟩) HBT2.out)
          go_wp2_with fail
          exact HE.out
        | false =>
          have HZ2 : Hid (∀ j, j < k + 1 → brkn p L size out rows i j = false) := fun j hj => by
            by_cases e : j = k
            · subst e; exact HBK.out
            · exact HZ.out j (by omega)
          go_wp2_with fail
          go_roundw
          case rel => exact ⟨k + 1, by omega, by go_num, HZ2, HB2⟩
          case measure => simp [intOf]; omega
    · obtain rfl : k = m := by omega
      have hlt2 : ¬ (k : Int) < (k : Int) := by omega
      have HE := hid (HRR.out (-1) wr (.inl ⟨rfl, fun j hj => HZ.out j (by have := HM.out; omega)⟩) (HB0.out.trans ((HB1.out.trans (HBw.out.mono HB1.out.size)).mono HB0.out.size)))
      go_wp2_with fail
      exact HE.out

end Go.Proofs.YtaibngnabhmabajDoor

namespace Go.Proofs.YtaibngnabhmabajDoor
open Go.RowKit Go.Maps

theorem row2_arr {W : World} {g : Nat} {t : TypeId} {f : Nat → Value} (h : W.rowIs g t 2 f) : W.heap[g]? = some (.cells #[f 0, f 1] t (0, 0)) := by
  obtain ⟨c, hb, hs, hc⟩ := h
  rw [hb]
  congr 2
  apply Array.ext
  · simpa using hs
  · intro i h1 h2
    have h4 : i < 2 := by simpa using h2
    have := hc i h4
    rw [Array.getElem?_eq_getElem h1] at this
    injection this with this
    rw [this]
    have : i = 0 ∨ i = 1 := by omega
    rcases this with rfl | rfl <;> rfl
theorem row2_of {W : World} {g : Nat} {t : TypeId} {a b : Value} (h : W.heap[g]? = some (.cells #[a, b] t (0, 0))) : W.rowIs g t 2 (fun i => #[a, b].getD i .nilFunc) :=
  ⟨_, h, rfl, fun i hi => by
    have : i = 0 ∨ i = 1 := by omega
    rcases this with rfl | rfl <;> rfl⟩
theorem put2_heap {W : World} {g : Nat} {t : TypeId} {z0 z1 : Value} (h : W.heap[g]? = some (.cells #[z0, z1] t (0, 0))) (a b : Value) : ((W.setCell ⟨g, 0, none⟩ a).setCell ⟨g, 1, none⟩ b).heap[g]? = some (.cells #[a, b] t (0, 0)) := by
  have := row2_arr (((row2_of h).set 0 a).set 1 b)
  simpa using this
theorem put2_other {W : World} {g k : Nat} (h : k ≠ g) (a b : Value) : ((W.setCell ⟨g, 0, none⟩ a).setCell ⟨g, 1, none⟩ b).heap[k]? = W.heap[k]? := by
  rw [Below.heap_setCell _ _ _ _ h, Below.heap_setCell _ _ _ _ h]
theorem put2_below {N : Nat} {w W : World} {g : Nat} (e : Below N w W) (hg : N ≤ g) (a b : Value) : Below N w ((W.setCell ⟨g, 0, none⟩ a).setCell ⟨g, 1, none⟩ b) :=
  ⟨e.os, e.tape, e.output, by simpa [World.setCell] using e.size, fun k hk => by rw [put2_other (show k ≠ g by omega)]; exact e.block k hk⟩
/-- what Broken tells -/
def BrkA (p : Nat) (L : List InsZ) (size out : Int) (rows : List (List Int)) (z x : Int) : Prop :=
  if rows.length = 0 ∨ L.length = 0 ∨ wdB (20 + L.length) rows = false then z = -2 ∧ x = 0 else MinB (brkn p L size out rows) (L.length + 26) rows.length z x
theorem BrkA.one {p : Nat} {L : List InsZ} {size out : Int} {rows : List (List Int)} {z x z' x' : Int} (h : BrkA p L size out rows z x) (h' : BrkA p L size out rows z' x') : z = z' ∧ x = x' := by
  unfold BrkA at h h'
  split at h
  · rename_i hc
    rw [if_pos hc] at h'
    exact ⟨h.1.trans h'.1.symm, h.2.trans h'.2.symm⟩
  · rename_i hc
    rw [if_neg hc] at h'
    exact h.one h'
/-- the memory of Broken -/
structure BkM (C B G : Nat) (size : Int) (aL : Option Addr) (nL cL : Nat) (z x : Int) (w W : World) : Prop where
  c : W.heap[C]? = some (.cells #[.int .i64 size, .slice aL nL cL] 24 (0, 0))
  b : W.heap[B]? = some (.cells #[.int .i64 z, .int .i64 x] 31 (0, 0))
  g : W.heap[G]? = some (.cells #[.int .i64 0, .int .i64 0] 31 (0, 0))
  bel : Below w.heap.size w W
theorem BkM.step {C B G : Nat} {size : Int} {aL : Option Addr} {nL cL : Nat} {z x : Int} {w W W' : World} (h : BkM C B G size aL nL cL z x w W) (e : Below W.heap.size W W') : BkM C B G size aL nL cL z x w W' :=
  ⟨(e.block C (Array.getElem?_eq_some_iff.1 h.c).1).trans h.c, (e.block B (Array.getElem?_eq_some_iff.1 h.b).1).trans h.b, (e.block G (Array.getElem?_eq_some_iff.1 h.g).1).trans h.g, h.bel.trans (e.mono h.bel.size)⟩

set_option maxRecDepth 100000 in
set_option maxHeartbeats 4000000 in
theorem pbroken_any (p b : Nat) (L : List InsZ) (size out : Int) (rows : List (List Int)) (aL : Option Addr) (cL : Nat) (ad : Option Addr) (c : Nat) (w : World) (h3 : 3 ≤ p) (h4 : p ≤ 2147483647) (hIB : InsB L) (hl : L.length ≤ 4398046511104) (hsz : I64 size) (hout : I64 out) (hF : FitsR rows) (hp : w.cell? ⟨b, 0, none⟩ = some (.int .i64 p)) (hI : LstI w.heap.size w aL cL L) (hL : LstR w.heap.size w ad c rows) (hn : rows.length ≤ 5864062014634) :
    Calls Tryd.prog 6 #[.pointer (some ⟨b, 0, none⟩), .agg #[.int .i64 size, .slice aL L.length cL], .int .i64 out, .slice ad rows.length c] w fun e w' => ∃ z x, e = .returned (.agg #[.int .i64 z, .int .i64 x]) ∧ BrkA p L size out rows z x ∧ Below w.heap.size w w' := by
  obtain ⟨R, hR⟩ : ∃ R : Ending → World → Prop, R = fun e w' => ∃ z x, e = .returned (.agg #[.int .i64 z, .int .i64 x]) ∧ BrkA p L size out rows z x ∧ Below w.heap.size w w' := ⟨_, rfl⟩
  rw [← hR]
  have HRR : Hid (∀ (z x : Int) W, BrkA p L size out rows z x → Below w.heap.size w W → R (.returned (.agg #[.int .i64 z, .int .i64 x])) W) := fun z x W h1 h2 => by rw [hR]; exact ⟨z, x, rfl, h1, h2⟩
  obtain ⟨V1, hV1⟩ : ∃ V1, V1 = w.alloc (.cells #[.int .i64 size, .slice aL L.length cL] 24) := ⟨_, rfl⟩
  obtain ⟨W0, hW0⟩ : ∃ W0, W0 = V1.alloc (.cells #[.int .i64 0, .int .i64 0] 31) := ⟨_, rfl⟩
  have b1 : Below w.heap.size w V1 := by rw [hV1]; exact (Below.refl _ _).alloc (Nat.le_refl _) _
  have hz1 : V1.heap.size = w.heap.size + 1 := by rw [hV1]; simp
  have b2 : Below V1.heap.size V1 W0 := by rw [hW0]; exact (Below.refl _ _).alloc (Nat.le_refl _) _
  have hb0 := b1.trans (b2.mono b1.size)
  have hs0 : W0.heap[w.heap.size]? = some (.cells #[.int .i64 size, .slice aL L.length cL] 24 (0, 0)) := (b2.block _ (by omega)).trans (by rw [hV1]; exact heap_alloc_new w _)
  have hg0 : W0.heap[w.heap.size + 1]? = some (.cells #[.int .i64 0, .int .i64 0] 31 (0, 0)) := by rw [hW0, ← hz1]; exact heap_alloc_new V1 _
  obtain ⟨C, hC⟩ : ∃ C, C = w.heap.size := ⟨_, rfl⟩
  obtain ⟨G, hG⟩ : ∃ G, G = w.heap.size + 1 := ⟨_, rfl⟩
  rw [← hC] at hs0
  rw [← hG] at hg0
  have HGW : Hid (w.heap.size ≤ G) := by unfold Hid; omega
  have HB0 := hid hb0
  have HCO : Hid (∀ W, Below W0.heap.size W0 W → W.cell? ⟨C, 0, none⟩ = some (.int .i64 size) ∧ W.cell? ⟨C, 1, none⟩ = some (.slice aL L.length cL) ∧ W.heap[C]? = some (.cells #[.int .i64 size, .slice aL L.length cL] 24 (0, 0)) ∧ W.heap[G]? = some (.cells #[.int .i64 0, .int .i64 0] 31 (0, 0))) := fun W h => by
    have h5 := (h.block C (Array.getElem?_eq_some_iff.1 hs0).1).trans hs0
    have h6 := (h.block G (Array.getElem?_eq_some_iff.1 hg0).1).trans hg0
    exact ⟨by simp [World.cell?, h5], by simp [World.cell?, h5], h5, h6⟩
  have HWD := hid (fun W => pwidth_any size aL L.length cL W (by omega))
  have HIW := hid (fun W (h : Below w.heap.size w W) => pisWide_any c (20 + L.length) ad rows W ((hL.below h).mono h.size) (by omega))
  have HBI : Hid (wdB (20 + L.length) rows = true → 1 ≤ L.length → ∀ W (i : Nat), Below w.heap.size w W → i < rows.length → Calls Tryd.prog 14 #[.pointer (some ⟨b, 0, none⟩), .agg #[.int .i64 size, .slice aL L.length cL], .int .i64 out, .slice ad rows.length c, .int .i64 (i : Int)] W fun e w' => ∃ z, e = .returned (.int .i64 z) ∧ FstB (brkn p L size out rows i) (L.length + 26) z ∧ Below W.heap.size W w') := fun hw h1 W i h hi =>
    pbrokenIn_any p b L size out rows aL cL ad c i W ⟨h3, h4, fun k hk => wdB_at hw hk, fun k j hk => Fits.all (hF k hk).1 j, hIB, hl, h1, hsz, hout⟩ ((h.cell (p := ⟨b, 0, none⟩) (World.block_lt_of_cell? _ _ hp)).trans hp) ((hI.below h).mono h.size) ((hL.below h).mono h.size) hn hi
  obtain ⟨nL, hnL⟩ : ∃ nL, nL = L.length := ⟨_, rfl⟩
  obtain ⟨n, hn'⟩ : ∃ n, n = rows.length := ⟨_, rfl⟩
  have HNL := hid hnL
  have HN := hid hn'
  rw [← hnL] at hl hV1 HCO HWD HIW HBI ⊢
  rw [← hn'] at hn HIW HBI ⊢
  have HBAD : Hid (n = 0 ∨ nL = 0 ∨ wdB (20 + nL) rows = false → BrkA p L size out rows (-2) 0) := fun h => by
    unfold BrkA
    rw [← HN.out, ← HNL.out, if_pos h]
    exact ⟨rfl, rfl⟩
  have HOK : Hid (n ≠ 0 → nL ≠ 0 → wdB (20 + nL) rows = true → ∀ z x, MinB (brkn p L size out rows) (nL + 26) n z x → BrkA p L size out rows z x) := fun g1 g2 g4 z x hm => by
    unfold BrkA
    rw [← HN.out, ← HNL.out, if_neg (by rw [g4]; simp; omega)]
    exact hm
  clear hR b1 b2 hb0 hs0 hg0 hnL hn' hIB hsz hout hF hp hI hL
  by_cases hz : nL = 0
  · have HE := hid (HBAD.out (.inr (.inl hz)))
    clear HBAD HOK HBI HIW HWD HNL
    subst hz
    subst hV1 hW0
    obtain ⟨x0, x1, x2, x3⟩ := HCO.out _ (Below.refl _ _)
    rw [hG] at x3
    go_enter Tryd.func6, Tryd.ntmps6
    go_wp2_with fail
    (try simp only [Exit.inBlock, Exit.then])
    refine bodyPost_ret (results_cell_row rfl _ _ (w.heap.size + 1) 31 #[.int .i64 (-2), .int .i64 0] (0, 0) _ rfl (by have := heap_alloc_new (w.alloc (.cells #[.int .i64 size, .slice aL 0 cL] 24)) (.cells #[.int .i64 (-2), .int .i64 0] 31); simpa using this) Tryd.underlying31 rfl (by kernel_rfl)) rfl ?_
    exact HRR.out _ _ _ HE.out (((Below.refl _ _).alloc (Nat.le_refl _) _).alloc (by simp) _)
  by_cases hz2 : n = 0
  · have HE := hid (HBAD.out (.inl hz2))
    have q0 : ((nL : Int) == 0) = false := by rw [beq_eq_false_iff_ne]; omega
    clear HBAD HOK HBI HIW HWD HN
    subst hz2
    subst hV1 hW0
    obtain ⟨x0, x1, x2, x3⟩ := HCO.out _ (Below.refl _ _)
    rw [hG] at x3
    go_enter Tryd.func6, Tryd.ntmps6
    go_wp2_with fail
    (try simp only [Exit.inBlock, Exit.then])
    refine bodyPost_ret (results_cell_row rfl _ _ (w.heap.size + 1) 31 #[.int .i64 (-2), .int .i64 0] (0, 0) _ rfl (by have := heap_alloc_new (w.alloc (.cells #[.int .i64 size, .slice aL nL cL] 24)) (.cells #[.int .i64 (-2), .int .i64 0] 31); simpa using this) Tryd.underlying31 rfl (by kernel_rfl)) rfl ?_
    exact HRR.out _ _ _ HE.out (((Below.refl _ _).alloc (Nat.le_refl _) _).alloc (by simp) _)
  have q0 : ((nL : Int) == 0) = false := by rw [beq_eq_false_iff_ne]; omega
  have q1 : ((n : Int) == 0) = false := by rw [beq_eq_false_iff_ne]; omega
  obtain ⟨wb, hwb⟩ : ∃ wb, wb = wdB (20 + nL) rows := ⟨_, rfl⟩
  rw [← hwb] at HIW HBI HBAD HOK
  obtain ⟨m, hm⟩ : ∃ m, m = 20 + nL := ⟨_, rfl⟩
  rw [← hm] at HWD HIW
  clear hm hwb
  go_enter Tryd.func6, Tryd.ntmps6
  obtain ⟨x0, x1, x2, x3⟩ := HCO.out W0 (Below.refl _ _)
  have hE0 : (w.alloc (.cells #[.int .i64 size, .slice aL nL cL] 24)).alloc (.cells #[.int .i64 0, .int .i64 0] 31) = W0 := by rw [hW0, hV1]
  have HZ := hid (And.intro hz hz2)
  clear hV1 hW0 hz hz2
  subst hE0
  go_wp2_with fail
  rw [← hG, ← hC]
  clear hC hG x0 x1
  generalize (w.alloc (.cells #[.int .i64 size, .slice aL nL cL] 24)).alloc (.cells #[.int .i64 0, .int .i64 0] 31) = W0 at *
  refine (HWD.out _).mono ?_
  rintro e w1 ⟨rfl, hb1⟩
  have HB1 := hid hb1
  have hbw1 := HB0.out.trans (hb1.mono HB0.out.size)
  have HIW1 := hid (HIW.out w1 hbw1)
  obtain ⟨_, _, y2, y3⟩ := HCO.out w1 hb1
  have HY := hid (And.intro y2 y3)
  have HBW := hid hbw1
  have z0 : w1.cell? ⟨G, 0, none⟩ = some (.int .i64 0) := by simp [World.cell?, y3]
  have z1 : w1.cell? ⟨G, 1, none⟩ = some (.int .i64 0) := by simp [World.cell?, y3]
  have yf : ∀ i, w1.frozen? ⟨G, i, none⟩ = false := (row2_of y3).frozen
  clear hb1 hbw1 x2 x3 y2 y3 HWD HIW
  go_wp2_with fail
  refine HIW1.out.mono ?_
  rintro e w2 ⟨rfl, hw2⟩
  have hw2' := hw2.symm
  subst hw2'
  clear hw2
  cases wb with
  | false =>
    have HE := hid (HBAD.out (.inr (.inr rfl)))
    clear HBAD HOK HBI
    go_wp2_with fail
    (try simp only [Exit.inBlock, Exit.then])
    refine bodyPost_ret (results_cell_row rfl _ _ G 31 #[.int .i64 (-2), .int .i64 0] (0, 0) _ rfl (put2_heap HY.out.2 (.int .i64 (-2)) (.int .i64 0)) Tryd.underlying31 rfl (by kernel_rfl)) rfl ?_
    exact HRR.out _ _ _ HE.out (put2_below HBW.out HGW.out _ _)
  | true =>
    have HBI2 := hid (HBI.out rfl (by have := HZ.out.1; omega))
    have HOK2 := hid (HOK.out HZ.out.2 HZ.out.1 rfl)
    clear HBAD HOK HBI z0 z1 yf
    obtain ⟨B, hB⟩ : ∃ B, B = w1.heap.size := ⟨_, rfl⟩
    obtain ⟨W2, hW2⟩ : ∃ W2, W2 = w1.alloc (.cells #[.int .i64 (-1), .int .i64 0] 31) := ⟨_, rfl⟩
    have hb2 : Below w1.heap.size w1 W2 := by rw [hW2]; exact (Below.refl _ _).alloc (Nat.le_refl _) _
    have HBM : Hid (BkM C B G size aL nL cL (-1) 0 w W2) :=
      ⟨(hb2.block C (Array.getElem?_eq_some_iff.1 HY.out.1).1).trans HY.out.1, by rw [hW2, hB]; exact heap_alloc_new w1 _, (hb2.block G (Array.getElem?_eq_some_iff.1 HY.out.2).1).trans HY.out.2, HBW.out.trans (hb2.mono HBW.out.size)⟩
    have HNE : Hid (B ≠ C ∧ B ≠ G ∧ w.heap.size ≤ B) := by
      have h1 := (Array.getElem?_eq_some_iff.1 HY.out.1).1
      have h2 := (Array.getElem?_eq_some_iff.1 HY.out.2).1
      have h5 := HBW.out.size
      unfold Hid
      omega
    clear hb2 HY HBW HB1 HB0 HCO
    go_wp2_with fail
    rw [← hW2, ← hB]
    clear hW2 hB
    go_wp2_with fail
    go_loopw [10, 11, 32] (fun _ _ iv wr => ∃ (i : Nat) (z x : Int), i ≤ n ∧ iv = .int .i64 i ∧ Hid (MinB (brkn p L size out rows) (nL + 26) i z x) ∧ Hid (BkM C B G size aL nL cL z x w wr)) (fun _ _ iv _ => n - (intOf iv).toNat)
    case atStart => exact ⟨0, -1, 0, Nat.zero_le _, rfl, MinB.start _ _, HBM⟩
    case round =>
      obtain ⟨i, z, x, hi, rfl, HMB, HBK⟩ := hrel
      by_cases hlt : i < n
      · have hlt2 : (i : Int) < (n : Int) := by omega
        have his : IntKind.i64.wrap ((i : Int) + 1) = (i : Int) + 1 := by rw [IntKind.wrap_i64]; omega
        have k0 : wr.cell? ⟨C, 0, none⟩ = some (.int .i64 size) := by simp [World.cell?, HBK.out.c]
        have k1 : wr.cell? ⟨C, 1, none⟩ = some (.slice aL nL cL) := by simp [World.cell?, HBK.out.c]
        have HCI := hid (HBI2.out wr i HBK.out.bel hlt)
        go_wp2_with fail
        refine HCI.out.mono ?_
        rintro e w3 ⟨f, rfl, hf, hb3⟩
        have hBK3 := HBK.out.step hb3
        have HF := hid hf
        have HBK3 := hid hBK3
        have b0 : w3.cell? ⟨B, 0, none⟩ = some (.int .i64 z) := by simp [World.cell?, hBK3.b]
        have b1 : w3.cell? ⟨B, 1, none⟩ = some (.int .i64 x) := by simp [World.cell?, hBK3.b]
        have bf : ∀ i, w3.frozen? ⟨B, i, none⟩ = false := (row2_of hBK3.b).frozen
        clear hf hb3 hBK3 k0 k1 HCI HBK
        by_cases hyes : 0 ≤ f ∧ (z < 0 ∨ f < z)
        · have HMB2 := hid (HMB.out.take HF.out hyes)
          have HBK4 : Hid (BkM C B G size aL nL cL f (i : Int) w ((w3.setCell ⟨B, 0, none⟩ (.int .i64 f)).setCell ⟨B, 1, none⟩ (.int .i64 (i : Int)))) :=
            ⟨(put2_other HNE.out.1.symm _ _).trans HBK3.out.c, put2_heap HBK3.out.b _ _, (put2_other HNE.out.2.1.symm _ _).trans HBK3.out.g, put2_below HBK3.out.bel HNE.out.2.2 _ _⟩
          have q2 : (0 : Int) ≤ f := hyes.1
          by_cases hz0 : z < 0
          · clear hyes
            go_wp2_with fail
            go_roundw
            case rel => exact ⟨i + 1, f, (i : Int), by omega, by go_num, HMB2, HBK4⟩
            case measure => simp [intOf]; omega
          · have q3 : f < z := by omega
            clear hyes
            go_wp2_with fail
            go_roundw
            case rel => exact ⟨i + 1, f, (i : Int), by omega, by go_num, HMB2, HBK4⟩
            case measure => simp [intOf]; omega
        · have HMB2 := hid (HMB.out.keep HF.out hyes)
          by_cases q2 : 0 ≤ f
          · have hz0 : ¬ z < 0 := by omega
            have q3 : ¬ f < z := by omega
            clear hyes
            go_wp2_with fail
            go_roundw
            case rel => exact ⟨i + 1, z, x, by omega, by go_num, HMB2, HBK3⟩
            case measure => simp [intOf]; omega
          · clear hyes
            go_wp2_with fail
            go_roundw
            case rel => exact ⟨i + 1, z, x, by omega, by go_num, HMB2, HBK3⟩
            case measure => simp [intOf]; omega
      · obtain rfl : i = n := by omega
        have hlt2 : ¬ (i : Int) < (i : Int) := by omega
        have b0 : wr.cell? ⟨B, 0, none⟩ = some (.int .i64 z) := by simp [World.cell?, HBK.out.b]
        have b1 : wr.cell? ⟨B, 1, none⟩ = some (.int .i64 x) := by simp [World.cell?, HBK.out.b]
        have z0 : wr.cell? ⟨G, 0, none⟩ = some (.int .i64 0) := by simp [World.cell?, HBK.out.g]
        have z1 : wr.cell? ⟨G, 1, none⟩ = some (.int .i64 0) := by simp [World.cell?, HBK.out.g]
        have yf : ∀ i, wr.frozen? ⟨G, i, none⟩ = false := (row2_of HBK.out.g).frozen
        have HE := hid (HOK2.out z x HMB.out)
        go_wp2_with fail
        (try simp only [Exit.inBlock, Exit.then])
        refine bodyPost_ret (results_cell_row rfl _ _ G 31 #[.int .i64 z, .int .i64 x] (0, 0) _ rfl (put2_heap HBK.out.g (.int .i64 z) (.int .i64 x)) Tryd.underlying31 rfl (by kernel_rfl)) rfl ?_
        exact HRR.out _ _ _ HE.out (put2_below HBK.out.bel HGW.out _ _)

end Go.Proofs.YtaibngnabhmabajDoor
