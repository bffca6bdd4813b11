/- TreeBinds: the walk. -/
import Derived.Test.YtionbilheeheaafTrhC
import Derived.Test.YtionbilheeheaafSpgT
namespace Go.Proofs.Ytionbilheeheaaf
open Go.RowKit

/-- unlike rows at a common place, of those that were looked at -/
def ApB (q : Nat) (psA : List Int) (rowsA : List (List Int)) (psB : List Int) (rowsB : List (List Int)) (i k : Nat) : Prop := ∃ i' k', (i' < i ∧ k' < psB.length ∨ i' = i ∧ k' < k) ∧ zat psA i' = zat psB k' ∧ samb q (rat rowsA i') (rat rowsB k') = false
theorem samb_elr {q : Nat} {x y : List Int} : samb q x y = false ↔ elr q x ≠ elr q y := by
  rw [elr_map, elr_map]
  constructor
  · intro h e
    rw [samb_iff.2 e] at h
    cases h
  · intro h
    cases hs : samb q x y with
    | false => rfl
    | true => exact absurd (samb_iff.1 hs) h
theorem apB_all {q : Nat} {psA : List Int} {rowsA : List (List Int)} {psB : List Int} {rowsB : List (List Int)} : ApB q psA rowsA psB rowsB psA.length 0 ↔ Apart q psA rowsA psB rowsB := by
  constructor
  · rintro ⟨i, k, h | h, e, hs⟩
    · exact ⟨i, k, h.1, h.2, e, samb_elr.1 hs⟩
    · omega
  · rintro ⟨i, k, h1, h2, e, hs⟩
    exact ⟨i, k, .inl ⟨h1, h2⟩, e, samb_elr.2 hs⟩
theorem apB_row {q : Nat} {psA : List Int} {rowsA : List (List Int)} {psB : List Int} {rowsB : List (List Int)} {i : Nat} : ApB q psA rowsA psB rowsB i psB.length ↔ ApB q psA rowsA psB rowsB (i + 1) 0 := by
  constructor
  · rintro ⟨i', k', h | h, r⟩
    · exact ⟨i', k', .inl ⟨by omega, h.2⟩, r⟩
    · exact ⟨i', k', .inl ⟨by omega, h.2⟩, r⟩
  · rintro ⟨i', k', h | h, r⟩
    · rcases Nat.lt_or_ge i' i with h' | h'
      · exact ⟨i', k', .inl ⟨h', h.2⟩, r⟩
      · exact ⟨i', k', .inr ⟨by omega, h.2⟩, r⟩
    · omega
theorem apB_step {q : Nat} {psA : List Int} {rowsA : List (List Int)} {psB : List Int} {rowsB : List (List Int)} {i k : Nat} : ApB q psA rowsA psB rowsB i (k + 1) ↔ ApB q psA rowsA psB rowsB i k ∨ (zat psA i = zat psB k ∧ samb q (rat rowsA i) (rat rowsB k) = false) := by
  constructor
  · rintro ⟨i', k', h, e, hs⟩
    by_cases hik : i' = i ∧ k' = k
    · rw [hik.1, hik.2] at e hs
      exact .inr ⟨e, hs⟩
    · exact .inl ⟨i', k', by omega, e, hs⟩
  · rintro (⟨i', k', h, r⟩ | ⟨e, hs⟩)
    · exact ⟨i', k', by omega, r⟩
    · exact ⟨i, k, .inr ⟨rfl, by omega⟩, e, hs⟩

set_option maxRecDepth 100000 in
set_option maxHeartbeats 4000000 in
theorem tbinds_try (p : Int) (a4 : Option Addr) (c4 : Nat) (root : List Int) (N : Int) (ap ar an' ap2 ar2 an2 : Option Addr) (cp cr cn cp2 cr2 cn2 : Nat) (ps : List Int) (rows nodes : List (List Int)) (ps2 : List Int) (rows2 nodes2 : List (List Int)) (w : World) (hT : ∀ q n d b s W, SpgOk q n d → SpgAt W s b q n d → Below w.heap.size w W → TwoO q n d b s c4 cp cr cn cp2 cr2 cn2 a4 ap ar an' ap2 ar2 an2 root N ps rows nodes ps2 rows2 nodes2 W) (q : Nat) (hpq : p = (q : Int)) (h23 : 23 ≤ q) (h4 : q ≤ 2147483647) (hqp : Num.Prime q) :
    Calls Try.prog 4 #[.int .i64 p, .slice a4 root.length c4, .int .i64 N, .agg #[.slice ap ps.length cp, .slice ar rows.length cr, .slice an' nodes.length cn], .agg #[.slice ap2 ps2.length cp2, .slice ar2 rows2.length cr2, .slice an2 nodes2.length cn2]] w fun e w' => e = .returned (.bool true) ∧ Below w.heap.size w w' := by
  subst hpq
  have HT := hid hT
  have HP := hid hqp
  have HB0 : Hid (Below w.heap.size w ((w.alloc (.cells #[.slice ap ps.length cp, .slice ar rows.length cr, .slice an' nodes.length cn] 32)).alloc (.cells #[.slice ap2 ps2.length cp2, .slice ar2 rows2.length cr2, .slice an2 nodes2.length cn2] 32))) := ((Below.refl _ _).alloc (Nat.le_refl _) _).alloc (by simp) _
  have HO1 := hid (tri_arr ((tri_new w 32 (.slice ap ps.length cp) (.slice ar rows.length cr) (.slice an' nodes.length cn)).alloc (.cells #[.slice ap2 ps2.length cp2, .slice ar2 rows2.length cr2, .slice an2 nodes2.length cn2] 32)))
  have HO2 : Hid (((w.alloc (.cells #[.slice ap ps.length cp, .slice ar rows.length cr, .slice an' nodes.length cn] 32)).alloc (.cells #[.slice ap2 ps2.length cp2, .slice ar2 rows2.length cr2, .slice an2 nodes2.length cn2] 32)).heap[w.heap.size + 1]? = some (.cells #[.slice ap2 ps2.length cp2, .slice ar2 rows2.length cr2, .slice an2 nodes2.length cn2] 32 (0, 0))) := by
    have := tri_arr (tri_new (w.alloc (.cells #[.slice ap ps.length cp, .slice ar rows.length cr, .slice an' nodes.length cn] 32)) 32 (.slice ap2 ps2.length cp2) (.slice ar2 rows2.length cr2) (.slice an2 nodes2.length cn2))
    rwa [show (w.alloc (.cells #[.slice ap ps.length cp, .slice ar rows.length cr, .slice an' nodes.length cn] 32)).heap.size = w.heap.size + 1 from by simp] at this
  clear hT hqp
  go_enter Try.func4, Try.ntmps4
  go_wp2_with fail
  generalize ((w.alloc (.cells #[.slice ap ps.length cp, .slice ar rows.length cr, .slice an' nodes.length cn] 32)).alloc (.cells #[.slice ap2 ps2.length cp2, .slice ar2 rows2.length cr2, .slice an2 nodes2.length cn2] 32)) = W0 at *
  refine (lives3_any W0).mono ?_
  rintro e w0 ⟨rfl, hb0⟩
  have HBB := hid (HB0.out.trans (hb0.mono HB0.out.size))
  have HP1 := hid ((hb0.block _ (Array.getElem?_eq_some_iff.1 HO1.out).1).trans HO1.out)
  have HP2 := hid ((hb0.block _ (Array.getElem?_eq_some_iff.1 HO2.out).1).trans HO2.out)
  clear hb0 HO1 HO2 HB0
  go_wp2_with fail
  refine (plain3_yes q w0 h23 h4 HP.out).mono ?_
  rintro e w1 ⟨s, b, n, d, rfl, hok, hat, hb1⟩
  have HB1 := hid (HBB.out.trans (hb1.mono HBB.out.size))
  have HQ1 := hid ((hb1.block _ (Array.getElem?_eq_some_iff.1 HP1.out).1).trans HP1.out)
  have HQ2 := hid ((hb1.block _ (Array.getElem?_eq_some_iff.1 HP2.out).1).trans HP2.out)
  have HTW : Hid (∀ W, Below w1.heap.size w1 W → TwoO q n d b s c4 cp cr cn cp2 cr2 cn2 a4 ap ar an' ap2 ar2 an2 root N ps rows nodes ps2 rows2 nodes2 W ∧ Below w.heap.size w W ∧ W.heap[w.heap.size]? = some (.cells #[.slice ap ps.length cp, .slice ar rows.length cr, .slice an' nodes.length cn] 32 (0, 0)) ∧ W.heap[w.heap.size + 1]? = some (.cells #[.slice ap2 ps2.length cp2, .slice ar2 rows2.length cr2, .slice an2 nodes2.length cn2] 32 (0, 0))) := fun W h => by
    have hb := HB1.out.trans (h.mono HB1.out.size)
    exact ⟨HT.out q n d b s W hok (hat.keep h) hb, hb, (h.block _ (Array.getElem?_eq_some_iff.1 HQ1.out).1).trans HQ1.out, (h.block _ (Array.getElem?_eq_some_iff.1 HQ2.out).1).trans HQ2.out⟩
  clear hok hat hb1 HP1 HP2 HBB
  have a0 := opn_c0 HQ1.out
  have a1 := opn_c1 HQ1.out
  have a2 := opn_c2 HQ1.out
  have b0 := opn_c0 HQ2.out
  have b1 := opn_c1 HQ2.out
  have b2 := opn_c2 HQ2.out
  have HCO := hid (collide_any q n d b s c4 cp cr cn cp2 cr2 cn2 a4 ap ar an' ap2 ar2 an2 root N ps rows nodes ps2 rows2 nodes2 w1 (HTW.out w1 (Below.refl _ _)).1)
  have HCA : Hid (∀ W, Below w1.heap.size w1 W → Calls Try.prog 9 #[.pointer (some ⟨s, 0, none⟩), .slice a4 root.length c4, .int .i64 N, .agg #[.slice ap ps.length cp, .slice ar rows.length cr, .slice an' nodes.length cn]] W fun e w' => e = .returned (.bool (chkf q n root N ps rows nodes)) ∧ Below w1.heap.size w1 w' ∧ Below W.heap.size W w') := fun W hW => by
    have h := (HTW.out W hW).1
    refine (check_any q n d b s c4 cp cr cn a4 ap ar an' root N ps rows nodes W h.ok h.hs h.pl h.nl h.N1 h.N2 h.f4 h.fp h.fr h.fn h.l4 h.lp h.lr h.ln).mono ?_
    rintro e w' ⟨rfl, hb⟩
    exact ⟨rfl, hW.trans (hb.mono hW.size), hb⟩
  have HCB : Hid (∀ W, Below w1.heap.size w1 W → Calls Try.prog 9 #[.pointer (some ⟨s, 0, none⟩), .slice a4 root.length c4, .int .i64 N, .agg #[.slice ap2 ps2.length cp2, .slice ar2 rows2.length cr2, .slice an2 nodes2.length cn2]] W fun e w' => e = .returned (.bool (chkf q n root N ps2 rows2 nodes2)) ∧ Below w1.heap.size w1 w' ∧ Below W.heap.size W w') := fun W hW => by
    have h := (HTW.out W hW).1
    refine (check_any q n d b s c4 cp2 cr2 cn2 a4 ap2 ar2 an2 root N ps2 rows2 nodes2 W h.ok h.hs h.pl2 h.nl2 h.N1 h.N2 h.f4 h.fp2 h.fr2 h.fn2 h.l4 h.lp2 h.lr2 h.ln2).mono ?_
    rintro e w' ⟨rfl, hb⟩
    exact ⟨rfl, hW.trans (hb.mono hW.size), hb⟩
  have HLA : Hid (chkf q n root N ps rows nodes = true → ((rows.length : Int) != (ps.length : Int)) = false) := fun h => by
    obtain ⟨M, _, _, _, _, hsh, _⟩ := chk_true (by omega) h
    have := hsh.1
    simp
    omega
  have HLB : Hid (chkf q n root N ps2 rows2 nodes2 = true → ((rows2.length : Int) != (ps2.length : Int)) = false) := fun h => by
    obtain ⟨M, _, _, _, _, hsh, _⟩ := chk_true (by omega) h
    have := hsh.1
    simp
    omega
  obtain ⟨cA, hcA⟩ : ∃ cA, cA = chkf q n root N ps rows nodes := ⟨_, rfl⟩
  obtain ⟨cB, hcB⟩ : ∃ cB, cB = chkf q n root N ps2 rows2 nodes2 := ⟨_, rfl⟩
  have HCO1 : Hid (Calls Try.prog 12 #[.pointer (some ⟨s, 0, none⟩), .slice a4 root.length c4, .int .i64 N, .agg #[.slice ap ps.length cp, .slice ar rows.length cr, .slice an' nodes.length cn], .agg #[.slice ap2 ps2.length cp2, .slice ar2 rows2.length cr2, .slice an2 nodes2.length cn2]] w1 fun e w' => ∃ A1 A2 U V K1 K2 t, e = .returned (.tuple #[.slice A1 U.length K1, .slice A2 V.length K2, .bool t]) ∧ Hid (Lst w'.heap.size w' A1 K1 U ∧ Lst w'.heap.size w' A2 K2 V ∧ (t = true ↔ (cA = true ∧ cB = true ∧ Apart q ps rows ps2 rows2)) ∧ (t = true → Clash q n U V) ∧ (t = false → U = [] ∧ V = [])) ∧ Below w1.heap.size w1 w') := by
    refine HCO.out.mono ?_
    rintro e w' ⟨hh, hb⟩
    rw [← hcA, ← hcB] at hh
    rcases hh with ⟨rfl, hn⟩ | ⟨v1, v2, U, V, rfl, ⟨A1, K1, rfl, l1⟩, ⟨A2, K2, rfl, l2⟩, hcl, ht⟩
    · exact ⟨none, none, [], [], 0, 0, false, rfl, ⟨⟨fun i hi => absurd hi (Nat.not_lt_zero _), Nat.zero_le _, fun _ => rfl⟩, ⟨fun i hi => absurd hi (Nat.not_lt_zero _), Nat.zero_le _, fun _ => rfl⟩, ⟨fun h => by simp at h, fun h => absurd h hn⟩, fun h => by simp at h, fun _ => ⟨rfl, rfl⟩⟩, hb⟩
    · exact ⟨A1, A2, U, V, K1, K2, true, rfl, ⟨l1, l2, ⟨fun _ => ht, fun _ => rfl⟩, fun _ => hcl, fun h => by simp at h⟩, hb⟩
  clear HCO
  rw [← hcA] at HCA HLA
  rw [← hcB] at HCB HLB
  clear hcA hcB
  go_wp2_with fail
  refine HCO1.out.mono ?_
  rintro e w2 ⟨A1, A2, U, V, K1, K2, tc, rfl, HUV, hb2⟩
  have HB2 := hid hb2
  have o1 := (HTW.out w2 hb2).2.2.1
  have a0' := opn_c0 o1
  have a1' := opn_c1 o1
  have a2' := opn_c2 o1
  clear hb2 a0 a1 a2 b0 b1 b2 o1
  go_wp2_with fail
  refine (HCA.out w2 HB2.out).mono ?_
  rintro e w3 ⟨rfl, hb3⟩
  have HB3 := hid hb3
  have o2 := (HTW.out w3 hb3.1).2.2.2
  have b0' := opn_c0 o2
  have b1' := opn_c1 o2
  have b2' := opn_c2 o2
  clear hb3 o2 a0' a1' a2'
  go_wp2_with fail
  refine (HCB.out w3 HB3.out.1).mono ?_
  rintro e w4 ⟨rfl, hb4⟩
  have HBa := hid (HB3.out.2.trans (hb4.2.mono HB3.out.2.size))
  have HL1 := hid ((HUV.out.1.below HBa.out).mono HBa.out.size)
  have HL2 := hid ((HUV.out.2.1.below HBa.out).mono HBa.out.size)
  have HUV2 := hid HUV.out.2.2
  have HB4 := hid hb4.1
  have HBW := hid (HTW.out w4 hb4.1).2.1
  have o1 := (HTW.out w4 hb4.1).2.2.1
  have o2 := (HTW.out w4 hb4.1).2.2.2
  have a0' := opn_c0 o1
  have a1' := opn_c1 o1
  have b0'' := opn_c0 o2
  have b1'' := opn_c1 o2
  clear hb4 o1 o2 b0' b1' b2' HUV HBa
  by_cases hAB : cA = true ∧ cB = true
  · obtain ⟨hcA, hcB⟩ := hAB
    subst hcA
    subst hcB
    have hnA := HLA.out rfl
    have hnB := HLB.out rfl
    have HRA : Hid (rows.length = ps.length ∧ ps.length ≤ 281474976710656) := ⟨by have := hnA; simp at this; omega, (HTW.out w4 HB4.out).1.pl⟩
    have HRB : Hid (rows2.length = ps2.length ∧ ps2.length ≤ 281474976710656) := ⟨by have := hnB; simp at this; omega, (HTW.out w4 HB4.out).1.pl2⟩
    clear HLA HLB HCA HCB HCO1 HQ1 HQ2 HB1 HB2 HB3 HBW
    go_wp2_with fail
    clear a0' a1' b0'' b1'' hnA hnB
    go_loopw [18, 19] (fun tv iv wr => ∃ (i : Nat) (t : Bool), i ≤ ps.length ∧ iv = .int .i64 i ∧ tv = .bool t ∧ Hid ((t = true ↔ ApB q ps rows ps2 rows2 i 0) ∧ Below w4.heap.size w4 wr)) (fun _ iv _ => ps.length - (intOf iv).toNat)
    case atStart => exact ⟨0, false, Nat.zero_le _, rfl, rfl, ⟨fun h => by simp at h, fun h => by obtain ⟨i, k, h, _⟩ := h; omega⟩, Below.refl _ _⟩
    case round =>
      obtain ⟨i, t, hi, rfl, rfl, hC⟩ := hrel
      have hWr := hid (HB4.out.trans (hC.out.2.mono HB4.out.size))
      have o1 := (HTW.out wr hWr.out).2.2.1
      have o2 := (HTW.out wr hWr.out).2.2.2
      have a0 := opn_c0 o1
      have b0 := opn_c0 o2
      clear o1 o2
      by_cases hlt : i < ps.length
      · have hlt2 : (i : Int) < (ps.length : Int) := by omega
        have hks : IntKind.i64.wrap ((i : Int) + 1) = (i : Int) + 1 := by rw [IntKind.wrap_i64]; have := HRA.out.2; omega
        go_wp2_with fail
        clear a0 b0
        go_loopw [18, 20] (fun tv kv wt => ∃ (k : Nat) (t' : Bool), k ≤ ps2.length ∧ kv = .int .i64 k ∧ tv = .bool t' ∧ Hid ((t' = true ↔ ApB q ps rows ps2 rows2 i k) ∧ Below w4.heap.size w4 wt)) (fun _ kv _ => ps2.length - (intOf kv).toNat)
        case atStart => exact ⟨0, t, Nat.zero_le _, rfl, rfl, hC.out⟩
        case round =>
          obtain ⟨k, t', hk, rfl, rfl, hC'⟩ := hrel
          have hWt := hid (HB4.out.trans (hC'.out.2.mono HB4.out.size))
          obtain ⟨tw, bw, o1, o2⟩ := HTW.out wr hWt.out
          have a0 := opn_c0 o1
          have b0 := opn_c0 o2
          by_cases hlk : k < ps2.length
          · have hlk2 : (k : Int) < (ps2.length : Int) := by omega
            have hks' : IntKind.i64.wrap ((k : Int) + 1) = (k : Int) + 1 := by rw [IntKind.wrap_i64]; have := HRB.out.2; omega
            have hir : i < rows.length := by rw [HRA.out.1]; exact hlt
            have hkr : k < rows2.length := by rw [HRB.out.1]; exact hlk
            have hir2 : (i : Int) < (rows.length : Int) := by omega
            have hkr2 : (k : Int) < (rows2.length : Int) := by omega
            obtain ⟨brA, orA, akA, ckA, hae, hbrA, hcrA, hlrA⟩ := tw.lr.row i hir
            subst hae
            obtain ⟨brB, orB, akB, ckB, hae, hbrB, hcrB, hlrB⟩ := tw.lr2.row k hkr
            subst hae
            obtain ⟨bpA, opA, hae, hbpA, hcpA⟩ := tw.lp.row i hlt
            subst hae
            obtain ⟨bpB, opB, hae, hbpB, hcpB⟩ := tw.lp2.row k hlk
            subst hae
            have hfA := tw.fr i hir
            have hfB := tw.fr2 k hkr
            have HKe : Hid (∀ W, Below wr.heap.size wr W → W.cell? ⟨w.heap.size, 1, none⟩ = some (.slice (some ⟨brA, orA, none⟩) rows.length cr) ∧ W.cell? ⟨brA, orA + i, none⟩ = some (.slice akA (rat rows i).length ckA) ∧ W.cell? ⟨w.heap.size + 1, 1, none⟩ = some (.slice (some ⟨brB, orB, none⟩) rows2.length cr2) ∧ W.cell? ⟨brB, orB + k, none⟩ = some (.slice akB (rat rows2 k).length ckB)) := fun W h =>
              ⟨(h.cell (p := ⟨w.heap.size, 1, none⟩) (Array.getElem?_eq_some_iff.1 o1).1).trans (opn_c1 o1), (h.cell (p := ⟨brA, orA + i, none⟩) hbrA).trans hcrA, (h.cell (p := ⟨w.heap.size + 1, 1, none⟩) (Array.getElem?_eq_some_iff.1 o2).1).trans (opn_c1 o2), (h.cell (p := ⟨brB, orB + k, none⟩) hbrB).trans hcrB⟩
            have HKp : Hid (∀ W, Below wr.heap.size wr W → W.cell? ⟨w.heap.size, 0, none⟩ = some (.slice (some ⟨bpA, opA, none⟩) ps.length cp) ∧ W.cell? ⟨bpA, opA + i, none⟩ = some (.int .i64 (zat ps i)) ∧ W.cell? ⟨w.heap.size + 1, 0, none⟩ = some (.slice (some ⟨bpB, opB, none⟩) ps2.length cp2) ∧ W.cell? ⟨bpB, opB + k, none⟩ = some (.int .i64 (zat ps2 k))) := fun W h =>
              ⟨(h.cell (p := ⟨w.heap.size, 0, none⟩) (Array.getElem?_eq_some_iff.1 o1).1).trans (opn_c0 o1), (h.cell (p := ⟨bpA, opA + i, none⟩) hbpA).trans hcpA, (h.cell (p := ⟨w.heap.size + 1, 0, none⟩) (Array.getElem?_eq_some_iff.1 o2).1).trans (opn_c0 o2), (h.cell (p := ⟨bpB, opB + k, none⟩) hbpB).trans hcpB⟩
            obtain ⟨sm, hsm⟩ : ∃ sm, sm = samb q (rat rows i) (rat rows2 k) := ⟨_, rfl⟩
            have HSM : Hid (∀ W, Below wr.heap.size wr W → Calls Try.prog 10 #[.int .i64 (q : Int), .slice akA (rat rows i).length ckA, .slice akB (rat rows2 k).length ckB] W fun e w' => e = .returned (.bool sm) ∧ w' = W) := fun W h => by
              rw [hsm]
              exact rsame_any q ckA ckB akA akB (rat rows i) (rat rows2 k) W (by omega) h4 (by have := hfA.2; omega) (by have := hfB.2; omega) hfA.1 hfB.1 ((hlrA.below h).mono h.size).row ((hlrB.below h).mono h.size).row
            have HE : Hid (∀ t'' : Bool, t'' = (t' || (zat ps i == zat ps2 k && !sm)) → (t'' = true ↔ ApB q ps rows ps2 rows2 i (k + 1))) := fun t'' h => by
              rw [h, apB_step, ← hC'.out.1, ← hsm]
              simp
            have HBt := hid hC'.out.2
            have hd1 : Below wr.heap.size wr wr.drew := (Below.refl _ _).drew
            clear tw bw o1 o2 hfA hfB hcrA hcrB hlrA hlrB hcpA hcpB hsm hC'
            go_wp2_with fail
            go_region_held3 (fun W => W.cell? ⟨w.heap.size, 1, none⟩ = some (.slice (some ⟨brA, orA, none⟩) rows.length cr) ∧ W.cell? ⟨brA, orA + i, none⟩ = some (.slice akA (rat rows i).length ckA) ∧ W.cell? ⟨w.heap.size + 1, 1, none⟩ = some (.slice (some ⟨brB, orB, none⟩) rows2.length cr2) ∧ W.cell? ⟨brB, orB + k, none⟩ = some (.slice akB (rat rows2 k).length ckB)) (exact HKe.out _ (by assumption))
              (first
                | (go_at_call 10; refine (HSM.out _ (by assumption)).mono ?_; rintro e w' ⟨rfl, rfl⟩))
            clear HKe HSM
            have HB3 := hid (HBt.out.trans (hd1.mono HBt.out.size))
            have hkp := HKp.out _ hd1
            clear HKp
            generalize zat ps i = za at *
            generalize zat ps2 k = zb at *
            go_wp2_with fail
            generalize wr.drew = W5 at *
            obtain ⟨p0, p1, p2, p3⟩ := hkp
            cases t' with
            | true =>
              go_quiet (fail)
              go_wp2_with fail
              go_roundw
              case rel => exact ⟨k + 1, true, by omega, by go_num, rfl, HE.out true (by simp), below_drewN HB3.out _⟩
              case measure => simp [intOf]; omega
            | false =>
              by_cases heq : za = zb
              · subst heq
                cases sm with
                | true =>
                  go_quiet (fail)
                  go_wp2_with fail
                  go_roundw
                  case rel => exact ⟨k + 1, false, by omega, by go_num, rfl, HE.out false (by simp), below_drewN HB3.out _⟩
                  case measure => simp [intOf]; omega
                | false =>
                  go_quiet (fail)
                  go_wp2_with fail
                  go_roundw
                  case rel => exact ⟨k + 1, true, by omega, by go_num, rfl, HE.out true (by simp), below_drewN HB3.out _⟩
                  case measure => simp [intOf]; omega
              · have heq2 : (za == zb) = false := by simpa using heq
                go_quiet (fail)
                go_wp2_with fail
                go_roundw
                case rel => exact ⟨k + 1, false, by omega, by go_num, rfl, HE.out false (by simp [heq2]), below_drewN HB3.out _⟩
                case measure => simp [intOf]; omega
          · obtain rfl : k = ps2.length := by omega
            have HBt := hid hC'.out.2
            have HE := hid (hC'.out.1.trans apB_row)
            clear tw bw o1 o2 hC'
            go_wp2_with fail
            go_roundw
            case rel => exact ⟨i + 1, t', by omega, by go_num, rfl, HE.out, HBt.out⟩
            case measure => simp [intOf]; omega
      · obtain rfl : i = ps.length := by omega
        have HAP := hid (hC.out.1.trans apB_all)
        have HBr := hid hC.out.2
        have HBW := hid (HTW.out wr hWr.out).2.1
        clear hC
        cases t with
        | false =>
          have htf : tc = false := by
            cases tc with
            | false => rfl
            | true => exact absurd (HAP.out.2 (HUV2.out.1.1 rfl).2.2) (by simp)
          subst htf
          obtain ⟨hU, hV⟩ := HUV2.out.2.2 rfl
          have HU : U.length = 0 := by rw [hU]; rfl
          have HV : V.length = 0 := by rw [hV]; rfl
          clear hU hV HL1 HL2 HUV2
          go_wp2_with fail
          go_ret
          exact ⟨rfl, HBW.out⟩
        | true =>
          have htf : tc = true := HUV2.out.1.2 ⟨by trivial, by trivial, HAP.out.1 rfl⟩
          subst htf
          have HCL := hid (HUV2.out.2.1 rfl)
          have HLU := hid ((HL1.out.below HBr.out).mono HBr.out.size)
          have HLV := hid ((HL2.out.below HBr.out).mono HBr.out.size)
          obtain ⟨D, hD⟩ : ∃ D : Nat → Int, hst q n (pdf q (zat U) U.length) (U.length / 4 + 1) = D := ⟨_, rfl⟩
          obtain ⟨D', hD'⟩ : ∃ D' : Nat → Int, hst q n (pdf q (zat V) V.length) (V.length / 4 + 1) = D' := ⟨_, rfl⟩
          have HDD : Hid (ls D' 4 = ls D 4) := by
            have := HCL.out.2.2.2.1
            unfold digl at this
            rw [hD, hD'] at this
            exact this.symm
          have HH1 : Hid (Calls Try.prog 13 #[.pointer (some ⟨s, 0, none⟩), .slice A1 U.length K1] wr fun e w' => e = .returned (.slice (some ⟨wr.heap.size + 1, 0, none⟩) 4 4) ∧ ArrI w' (wr.heap.size + 1) 77 8 D ∧ Below wr.heap.size wr w') := by
            have tw := (HTW.out wr hWr.out).1
            have h := shash_any q n d b s U.length K1 A1 (zat U) wr tw.ok tw.hs (by have := HCL.out.2.2.2.2.2.2.1; omega) (fun j _ => HCL.out.2.2.2.2.1.all j) (fun j hj => HLU.out.row j hj)
            rw [hD] at h
            exact h
          have HH2 : Hid (∀ W, Below wr.heap.size wr W → Calls Try.prog 13 #[.pointer (some ⟨s, 0, none⟩), .slice A2 V.length K2] W fun e w' => e = .returned (.slice (some ⟨W.heap.size + 1, 0, none⟩) 4 4) ∧ ArrI w' (W.heap.size + 1) 77 8 D' ∧ Below W.heap.size W w') := fun W hW => by
            have tw := (HTW.out W (hWr.out.trans (hW.mono hWr.out.size))).1
            have h := shash_any q n d b s V.length K2 A2 (zat V) W tw.ok tw.hs (by have := HCL.out.2.2.2.2.2.2.2; omega) (fun j _ => HCL.out.2.2.2.2.2.1.all j) (fun j hj => ((HLV.out.below hW).mono hW.size).row j hj)
            rw [hD'] at h
            exact h
          clear hD hD' HL1 HL2 HUV2 HAP
          go_wp2_with fail
          refine HH1.out.mono ?_
          rintro e w5 ⟨rfl, hA5, hb5⟩
          have HA5 := hid hA5
          have HB5 := hid hb5
          clear hA5 hb5
          go_wp2_with fail
          refine (HH2.out _ HB5.out).mono ?_
          rintro e w6 ⟨rfl, hA6, hb6⟩
          have hs5 := HB5.out.size
          have hs6 := hb6.size
          have hl5 := HA5.out.lt
          have hl6 := hA6.lt
          have HA6 := hid (HA5.out.below hb6 hl5)
          have HB6 := hid (HB5.out.trans (hb6.mono hs5))
          have HX5 : Hid (RowB w6.heap.size w6 (some ⟨wr.heap.size + 1, 0, none⟩) (ls D 4)) := HA6.out.rowB (by rw [ls_len]; omega) (fun j hj => by rw [ls_len] at hj; exact ls_at _ _ _ hj) (by omega)
          have HX6 : Hid (RowB w6.heap.size w6 (some ⟨w5.heap.size + 1, 0, none⟩) (ls D 4)) := by
            unfold Hid
            rw [← HDD.out]
            exact hA6.rowB (by rw [ls_len]; omega) (fun j hj => by rw [ls_len] at hj; exact ls_at _ _ _ hj) (by omega)
          have HI := hid (ints_same _ _ (ls D 4) _ _ 4 4 w6 HX5.out HX6.out (by rw [ls_len]; omega))
          rw [ls_len] at HI
          clear hA6 hb6 hs5 hs6 hl5 hl6 HX5 HX6 HA5 HA6
          go_wp2_with fail
          refine HI.out.mono ?_
          rintro e w7 ⟨rfl, n7, rfl⟩
          have HB7 := hid (below_drewN HB6.out n7)
          have HSM : Hid (Calls Try.prog 10 #[.int .i64 (q : Int), .slice A1 U.length K1, .slice A2 V.length K2] (w6.drewN n7) fun e w' => e = .returned (.bool false) ∧ w' = w6.drewN n7) := by
            have h := rsame_any q K1 K2 A1 A2 U V (w6.drewN n7) (by omega) h4 (by have := HCL.out.2.2.2.2.2.2.1; omega) (by have := HCL.out.2.2.2.2.2.2.2; omega) HCL.out.2.2.2.2.1 HCL.out.2.2.2.2.2.1 ((HLU.out.below HB7.out).mono HB7.out.size).row ((HLV.out.below HB7.out).mono HB7.out.size).row
            rw [samb_elr.2 (by rw [HCL.out.2.1, HCL.out.2.2.1]; exact HCL.out.1)] at h
            exact h
          have HBB := hid (HBW.out.trans (HB7.out.mono HBW.out.size))
          clear HI HB6 HB7
          go_wp2_with fail
          refine HSM.out.mono ?_
          rintro e w8 ⟨rfl, rfl⟩
          go_wp2_with fail
          go_ret
          exact ⟨rfl, HBB.out⟩
  · have htf : tc = false := by
      cases tc with
      | false => rfl
      | true => exact absurd ⟨(HUV2.out.1.1 rfl).1, (HUV2.out.1.1 rfl).2.1⟩ hAB
    subst htf
    obtain ⟨hU, hV⟩ := HUV2.out.2.2 rfl
    have HU : U.length = 0 := by rw [hU]; rfl
    have HV : V.length = 0 := by rw [hV]; rfl
    clear hU hV HL1 HL2 HUV2
    cases cA with
    | false =>
      cases cB with
      | false =>
        clear hAB
        go_wp2_with fail
        refine wp_loop_rounds 1 ?_
        rw [rounds_succ]
        go_wp2_with fail
        go_ret
        exact ⟨rfl, HBW.out⟩
      | true =>
        have hnB := HLB.out rfl
        clear hAB
        go_wp2_with fail
        refine wp_loop_rounds 1 ?_
        rw [rounds_succ]
        go_wp2_with fail
        go_ret
        exact ⟨rfl, HBW.out⟩
    | true =>
      have hnA := HLA.out rfl
      cases cB with
      | false =>
        clear hAB
        go_wp2_with fail
        refine wp_loop_rounds 1 ?_
        rw [rounds_succ]
        go_wp2_with fail
        go_ret
        exact ⟨rfl, HBW.out⟩
      | true => exact absurd ⟨rfl, rfl⟩ hAB

set_option maxRecDepth 100000 in
theorem tbinds_walk (p : Int) (a4 : Option Addr) (c4 : Nat) (root : List Int) (N : Int) (ap ar an' : Option Addr) (cp cr cn : Nat) (ps : List Int) (rows nodes : List (List Int)) (ap2 ar2 an2 : Option Addr) (cp2 cr2 cn2 : Nat) (ps2 : List Int) (rows2 nodes2 : List (List Int)) (w : World) (hp1 : -9223372036854775808 ≤ p) (hp2 : p ≤ 9223372036854775807) (hn1 : -9223372036854775808 ≤ N) (hn2 : N ≤ 9223372036854775807)
    (hf1 : Fits root) (hl1 : Lst w.heap.size w a4 c4 root)
    (hr : ps.length ≤ 17592186043904 ∧ (rows.length ≤ 5864062014634 ∧ ∀ k, k < rows.length → (rat rows k).length ≤ 17592186043904) ∧ (nodes.length ≤ 5864062014634 ∧ ∀ k, k < nodes.length → (rat nodes k).length ≤ 17592186043904))
    (lp : Lst w.heap.size w ap cp ps) (lr : LstR w.heap.size w ar cr rows) (ln : LstR w.heap.size w an' cn nodes) (fp : Fits ps) (fr : FitsR rows) (fn : FitsR nodes)
    (hr2 : ps2.length ≤ 17592186043904 ∧ (rows2.length ≤ 5864062014634 ∧ ∀ k, k < rows2.length → (rat rows2 k).length ≤ 17592186043904) ∧ (nodes2.length ≤ 5864062014634 ∧ ∀ k, k < nodes2.length → (rat nodes2 k).length ≤ 17592186043904))
    (lp2 : Lst w.heap.size w ap2 cp2 ps2) (lr2 : LstR w.heap.size w ar2 cr2 rows2) (ln2 : LstR w.heap.size w an2 cn2 nodes2) (fp2 : Fits ps2) (fr2 : FitsR rows2) (fn2 : FitsR nodes2) :
    Calls Try.prog 4 #[.int .i64 p, .slice a4 root.length c4, .int .i64 N, .agg #[.slice ap ps.length cp, .slice ar rows.length cr, .slice an' nodes.length cn], .agg #[.slice ap2 ps2.length cp2, .slice ar2 rows2.length cr2, .slice an2 nodes2.length cn2]] w fun e w' => e = .returned (.bool true) ∧ Below w.heap.size w w' := by
  by_cases hg : GoodS p
  · obtain ⟨⟨hq3, hq4, hqp⟩, h23⟩ := hg
    obtain ⟨q, rfl⟩ := Int.eq_ofNat_of_zero_le (show 0 ≤ p by omega)
    refine tbinds_try (q : Int) a4 c4 root N ap ar an' ap2 ar2 an2 cp cr cn cp2 cr2 cn2 ps rows nodes ps2 rows2 nodes2 w (fun q n d b s W ok hs hb => ?_) q rfl (by omega) (by omega) (by simpa using hqp)
    exact ⟨ok, hs, by omega, by omega, by omega, by omega, hn1, hn2, hf1, fp, fr, fn, fp2, fr2, fn2, (hl1.below hb).mono hb.size, (lp.below hb).mono hb.size, (lr.below hb).mono hb.size, (ln.below hb).mono hb.size, (lp2.below hb).mono hb.size, (lr2.below hb).mono hb.size, (ln2.below hb).mono hb.size⟩
  · clear hf1 hl1 hr lp lr ln fp fr fn hr2 lp2 lr2 ln2 fp2 fr2 fn2
    have HB0 : Hid (Below w.heap.size w ((w.alloc (.cells #[.slice ap ps.length cp, .slice ar rows.length cr, .slice an' nodes.length cn] 32)).alloc (.cells #[.slice ap2 ps2.length cp2, .slice ar2 rows2.length cr2, .slice an2 nodes2.length cn2] 32))) := ((Below.refl _ _).alloc (Nat.le_refl _) _).alloc (by simp) _
    go_enter Try.func4, Try.ntmps4
    go_wp2_with fail
    generalize ((w.alloc (.cells #[.slice ap ps.length cp, .slice ar rows.length cr, .slice an' nodes.length cn] 32)).alloc (.cells #[.slice ap2 ps2.length cp2, .slice ar2 rows2.length cr2, .slice an2 nodes2.length cn2] 32)) = W0 at *
    refine (lives3_any W0).mono ?_
    rintro e w0 ⟨rfl, hb0⟩
    have HBB := hid (HB0.out.trans (hb0.mono HB0.out.size))
    go_wp2_with fail
    refine (plain3_no p w0 hg hp1 hp2).mono ?_
    rintro e w1 ⟨rfl, hb1⟩
    go_wp2_with fail
    go_ret
    exact ⟨rfl, HBB.out.trans (hb1.mono HBB.out.size)⟩

end Go.Proofs.Ytionbilheeheaaf
