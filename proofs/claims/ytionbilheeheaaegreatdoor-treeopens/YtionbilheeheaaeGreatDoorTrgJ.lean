/- Package tree: isShown. -/
import Derived.Test.YtionbilheeheaaeGreatDoorTrgI
import Derived.Test.YtionbilheeheaaeGreatDoorTres
namespace Go.Proofs.YtionbilheeheaaeGreatDoor
open Go.RowKit

theorem seg_all {ps : List Int} {N : Nat} (h : ∀ x ∈ ps, 0 ≤ x ∧ x < (N : Int)) : seg ps ((0 : Nat) : Int) (((0 : Nat) : Int) + (N : Int)) = ps := by
  unfold seg
  rw [List.filter_eq_self]
  intro x hx
  have := h x hx
  simp
  omega
theorem lack_all {ps : List Int} {N : Nat} (h : ps.any (lackb 0 N) = false) : ∀ x ∈ ps, 0 ≤ x ∧ x < (N : Int) := fun x hx => by
  have := List.any_eq_false.1 h x hx
  simp [lackb] at this
  omega

def ShwnR (N : Nat) (ps : List Int) (rows nodes : List (List Int)) (w : World) (e : Ending) (w' : World) : Prop := (∃ t, e = .returned (.bool t) ∧ (t = true ↔ shwn N ps rows nodes)) ∧ Below w.heap.size w w'
theorem ShwnR.no {N : Nat} {ps : List Int} {rows nodes : List (List Int)} {w w' : World} (h : ¬ shwn N ps rows nodes) (hb : Below w.heap.size w w') : ShwnR N ps rows nodes w (.returned (.bool false)) w' := ⟨⟨false, rfl, by simp; exact h⟩, hb⟩
theorem ShwnR.mk {N : Nat} {ps : List Int} {rows nodes : List (List Int)} {w w' : World} (t : Bool) (h : t = true ↔ shwn N ps rows nodes) (hb : Below w.heap.size w w') : ShwnR N ps rows nodes w (.returned (.bool t)) w' := ⟨⟨t, rfl, h⟩, hb⟩
/-- an Opening in memory -/
structure OpnAt (W : World) (O cp cr cn : Nat) (ap ar an' : Option Addr) (ps : List Int) (rows nodes : List (List Int)) : Prop where
  c0 : W.cell? ⟨O, 0, none⟩ = some (.slice ap ps.length cp)
  c1 : W.cell? ⟨O, 1, none⟩ = some (.slice ar rows.length cr)
  c2 : W.cell? ⟨O, 2, none⟩ = some (.slice an' nodes.length cn)

set_option maxRecDepth 100000 in
set_option maxHeartbeats 2000000 in
theorem isshown_any (N : Nat) (cp cr cn : Nat) (ap ar an' : Option Addr) (ps : List Int) (rows nodes : List (List Int)) (w : World) (h1 : 1 ≤ N) (hN : N ≤ 65536) (hpl : ps.length ≤ 281474976710656) (hnl : nodes.length ≤ 281474976710656) (hp : Lst w.heap.size w ap cp ps) (hn : LstR w.heap.size w an' cn nodes) :
    Calls Tryz.prog 63 #[gk 0 N, .agg #[.slice ap ps.length cp, .slice ar rows.length cr, .slice an' nodes.length cn]] w (ShwnR N ps rows nodes w) := by
  unfold gk
  have HL := hid hp
  have HNL := hid hn
  clear hp hn
  by_cases hrp : rows.length = ps.length
  · have hrp2 : ((rows.length : Int) != (ps.length : Int)) = false := by simp; omega
    have HRP := hid hrp
    clear hrp
    have HCO : Hid (∀ W, Below w.heap.size w W → Calls Tryz.prog 21 #[.slice ap ps.length cp, .func (Fn.func 22) #[.agg #[.int .i64 0, .int .i64 (N : Int)]] #[]] W fun e w' => e = .returned (.bool (ps.any (lackb 0 N))) ∧ Below W.heap.size W w') := fun W h => contains_any 0 N cp ap ps W hpl ((HL.out.row.below h).mono h.size)
    go_enter Tryz.func63, Tryz.ntmps63
    go_wp2_with fail
    have HO := hid (show OpnAt ((w.alloc (.cells #[.int .i64 0, .int .i64 (N : Int)] 55)).alloc (.cells #[.slice ap ps.length cp, .slice ar rows.length cr, .slice an' nodes.length cn] 33)) (w.heap.size + 1) cp cr cn ap ar an' ps rows nodes from by
      have h3 := tri_new (w.alloc (.cells #[.int .i64 0, .int .i64 (N : Int)] 55)) 33 (.slice ap ps.length cp) (.slice ar rows.length cr) (.slice an' nodes.length cn)
      rw [show (w.alloc (.cells #[.int .i64 0, .int .i64 (N : Int)] 55)).heap.size = w.heap.size + 1 from by simp] at h3
      exact ⟨h3.cell (i := 0) (by omega), h3.cell (i := 1) (by omega), h3.cell (i := 2) (by omega)⟩)
    have HG := hid ((duo_new w 55 (.int .i64 0) (.int .i64 (N : Int))).alloc (.cells #[.slice ap ps.length cp, .slice ar rows.length cr, .slice an' nodes.length cn] 33))
    have HB0 : Hid (Below w.heap.size w ((w.alloc (.cells #[.int .i64 0, .int .i64 (N : Int)] 55)).alloc (.cells #[.slice ap ps.length cp, .slice ar rows.length cr, .slice an' nodes.length cn] 33))) := ((Below.refl _ _).alloc (Nat.le_refl _) _).alloc (by simp) _
    have hs0 : ((w.alloc (.cells #[.int .i64 0, .int .i64 (N : Int)] 55)).alloc (.cells #[.slice ap ps.length cp, .slice ar rows.length cr, .slice an' nodes.length cn] 33)).heap.size = w.heap.size + 2 := by simp
    generalize (w.alloc (.cells #[.int .i64 0, .int .i64 (N : Int)] 55)).alloc (.cells #[.slice ap ps.length cp, .slice ar rows.length cr, .slice an' nodes.length cn] 33) = W0 at *
    refine (HCO.out W0 HB0.out).mono ?_
    rintro e W1 ⟨rfl, hb1⟩
    have HB1 : Hid (Below w.heap.size w W1) := HB0.out.trans (hb1.mono HB0.out.size)
    have HS : Hid (∀ W, Below W1.heap.size W1 W → OpnAt W (w.heap.size + 1) cp cr cn ap ar an' ps rows nodes ∧ W.cell? ⟨w.heap.size, 0, none⟩ = some (.int .i64 0) ∧ W.cell? ⟨w.heap.size, 1, none⟩ = some (.int .i64 (N : Int)) ∧ Lst W.heap.size W ap cp ps ∧ LstR W.heap.size W an' cn nodes ∧ Below w.heap.size w W) := fun W h => by
      have hb2 : Below W0.heap.size W0 W := hb1.trans (h.mono hb1.size)
      have hb3 := HB0.out.trans (hb2.mono HB0.out.size)
      exact ⟨⟨(hb2.cell (p := ⟨w.heap.size + 1, 0, none⟩) (by show w.heap.size + 1 < _; omega)).trans HO.out.c0, (hb2.cell (p := ⟨w.heap.size + 1, 1, none⟩) (by show w.heap.size + 1 < _; omega)).trans HO.out.c1, (hb2.cell (p := ⟨w.heap.size + 1, 2, none⟩) (by show w.heap.size + 1 < _; omega)).trans HO.out.c2⟩,
        (hb2.cell (p := ⟨w.heap.size, 0, none⟩) (by show w.heap.size < _; omega)).trans (HG.out.cell (i := 0) (by omega)), (hb2.cell (p := ⟨w.heap.size, 1, none⟩) (by show w.heap.size < _; omega)).trans (HG.out.cell (i := 1) (by omega)), (HL.out.below hb3).mono hb3.size, (HNL.out.below hb3).mono hb3.size, hb3⟩
    clear hb1 HO HG HB0 hs0 HCO
    cases hany : ps.any (lackb 0 N) with
    | true =>
      have HNO : Hid (¬ shwn N ps rows nodes) := fun h => by
        obtain ⟨x, hx, hl⟩ := List.any_eq_true.1 hany
        obtain ⟨j, hj, rfl⟩ := mem_zat hx
        have := h.2.1 j hj
        simp [lackb] at hl
        omega
      clear hany
      go_wp2_with fail
      go_ret
      exact ShwnR.no HNO.out HB1.out
    | false =>
      have HIN := hid (lack_all hany)
      clear hany
      have hO1 := (HS.out W1 (Below.refl _ _)).1
      have hg0 := (HS.out W1 (Below.refl _ _)).2.1
      have hg1 := (HS.out W1 (Below.refl _ _)).2.2.1
      have k0 := hO1.c0
      have k2 := hO1.c2
      clear hO1
      obtain ⟨pl, hpq⟩ : ∃ pl, pl = ps.length := ⟨_, rfl⟩
      rw [← hpq] at k0 hpl
      have HPQ := hid hpq
      have HROW : Hid (∀ k, k < pl → ∃ bl ol, ap = some ⟨bl, ol, none⟩ ∧ W1.cell? ⟨bl, ol + k, none⟩ = some (.int .i64 (zat ps k))) := fun k hk => by
        obtain ⟨b, o, e1, e2, e3⟩ := (HS.out W1 (Below.refl _ _)).2.2.2.1.row k (by rw [← hpq]; exact hk)
        exact ⟨b, o, e1, e3⟩
      rw [← hpq]
      clear hpq
      go_wp2_with fail
      go_loop [26] (fun iv => ∃ k : Nat, k ≤ pl ∧ iv = .int .i64 k ∧ Hid (∀ j, 0 < j → j < k → zat ps (j - 1) < zat ps j)) (fun iv => pl - (intOf iv).toNat)
      case atStart => exact ⟨0, by omega, rfl, fun j _ hj => by omega⟩
      case round =>
        obtain ⟨k, hk, rfl, hC⟩ := hrel
        by_cases hlt : k < pl
        · have hlt2 : (k : Int) < (pl : Int) := by omega
          have hks : IntKind.i64.wrap ((k : Int) + 1) = (k : Int) + 1 := by rw [IntKind.wrap_i64]; omega
          obtain ⟨bl, ol, rfl, hcl⟩ := HROW.out k hlt
          by_cases hk0 : k = 0
          · subst hk0
            rw [Nat.add_zero] at hcl
            have HE : Hid (∀ j, 0 < j → j < 0 + 1 → zat ps (j - 1) < zat ps j) := fun j h1 h2 => by omega
            clear hC
            go_wp2_with fail
            go_round
            case rel => exact ⟨0 + 1, by omega, by go_num, HE⟩
            case measure => simp [intOf]; omega
          · have hk1 : (0 : Int) < (k : Int) := by omega
            obtain ⟨bl', ol', e1, hcl'⟩ := HROW.out (k - 1) (by omega)
            cases e1
            have hkm : (k : Int) - 1 = ((k - 1 : Nat) : Int) := by omega
            have hkm2 : ((k - 1 : Nat) : Int) < (pl : Int) := by omega
            have HV : Hid (∀ j, j = k - 1 → zat ps j = zat ps (k - 1)) := fun j h => by rw [h]
            by_cases hge : zat ps k ≤ zat ps (k - 1)
            · have HNO : Hid (¬ shwn N ps rows nodes) := fun h => by
                have := (h.2.1 k (by rw [← HPQ.out]; exact hlt)).2.2 (by omega)
                omega
              clear hC
              obtain ⟨k', rfl⟩ : ∃ k', k = k' + 1 := ⟨k - 1, by omega⟩
              simp only [Nat.add_sub_cancel] at hge hcl' hkm hkm2
              generalize zat ps (k' + 1) = x at *
              generalize zat ps k' = y at *
              go_wp2_with fail
              go_ret
              exact ShwnR.no HNO.out HB1.out
            · have HE : Hid (∀ j, 0 < j → j < k + 1 → zat ps (j - 1) < zat ps j) := fun j h1 h2 => by
                rcases Nat.lt_or_ge j k with h' | h'
                · exact hC.out j h1 h'
                · rw [show j = k by omega]; omega
              clear hC
              have hge2 : ¬ zat ps k ≤ zat ps (k - 1) := hge
              obtain ⟨k', rfl⟩ : ∃ k', k = k' + 1 := ⟨k - 1, by omega⟩
              simp only [Nat.add_sub_cancel] at hge2 hge hcl' hkm hkm2
              generalize zat ps (k' + 1) = x at *
              generalize zat ps k' = y at *
              go_wp2_with fail
              go_round
              case rel => exact ⟨k' + 1 + 1, by omega, by go_num, HE⟩
              case measure => simp [intOf]; omega
        · obtain rfl : k = pl := by omega
          have HASC : Hid (AscN (N : Int) ps) := fun j hj => ⟨(HIN.out _ (zat_mem hj)).1, (HIN.out _ (zat_mem hj)).2, fun h => hC.out j h (by rw [HPQ.out]; exact hj)⟩
          clear hC
          obtain ⟨nl, hnq⟩ : ∃ nl, nl = nodes.length := ⟨_, rfl⟩
          rw [← hnq] at k2 hnl
          have HNQ := hid hnq
          have HROW2 : Hid (∀ j, j < nl → ∃ bl ol ak ck, an' = some ⟨bl, ol, none⟩ ∧ W1.cell? ⟨bl, ol + j, none⟩ = some (.slice ak (rat nodes j).length ck)) := fun j hj => by
            obtain ⟨b, o, ak, ck, e1, e2, e3, _⟩ := (HS.out W1 (Below.refl _ _)).2.2.2.2.1.row j (by rw [← hnq]; exact hj)
            exact ⟨b, o, ak, ck, e1, e3⟩
          rw [← hnq]
          clear hnq
          go_wp2_with fail
          go_loop [47] (fun iv => ∃ j : Nat, j ≤ nl ∧ iv = .int .i64 j ∧ Hid (∀ i, i < j → (rat nodes i).length = 4)) (fun iv => nl - (intOf iv).toNat)
          case atStart => exact ⟨0, by omega, rfl, fun i hi => by omega⟩
          case round =>
            obtain ⟨j, hj, rfl, hD⟩ := hrel
            by_cases hlt2 : j < nl
            · have hlt3 : (j : Int) < (nl : Int) := by omega
              have hks : IntKind.i64.wrap ((j : Int) + 1) = (j : Int) + 1 := by rw [IntKind.wrap_i64]; omega
              obtain ⟨bl, ol, ak, ck, rfl, hcl⟩ := HROW2.out j hlt2
              have hdg := isdigest_any ak (rat nodes j).length ck W1
              by_cases h4 : (rat nodes j).length = 4
              · rw [decide_eq_true h4, h4] at hdg
                rw [h4] at hcl
                have HE : Hid (∀ i, i < j + 1 → (rat nodes i).length = 4) := fun i hi => by
                  rcases Nat.lt_or_ge i j with h' | h'
                  · exact hD.out i h'
                  · rw [show i = j by omega]; exact h4
                have HDG := hid hdg
                clear hD hdg h4
                go_wp2_with fail
                refine HDG.out.mono ?_
                rintro e w5 ⟨rfl, rfl⟩
                go_wp2_with fail
                go_round
                case rel => exact ⟨j + 1, by omega, by go_num, HE⟩
                case measure => simp [intOf]; omega
              · rw [decide_eq_false h4] at hdg
                have HNO : Hid (¬ shwn N ps rows nodes) := fun h => h4 (h.2.2.1 j (by rw [← HNQ.out]; exact hlt2))
                have HDG := hid hdg
                generalize (rat nodes j).length = ln at *
                clear hD hdg h4
                go_wp2_with fail
                refine HDG.out.mono ?_
                rintro e w5 ⟨rfl, rfl⟩
                go_wp2_with fail
                go_ret
                exact ShwnR.no HNO.out HB1.out
            · obtain rfl : j = nl := by omega
              have HSEG := hid (seg_all (N := N) HIN.out)
              have HHI : Hid (Calls Tryz.prog 29 #[.agg #[.int .i64 0, .int .i64 (N : Int)], .slice ap k cp] W1 fun e w' => ∃ v, e = .returned v ∧ OwnG W1.heap.size w' v (hd2 ps N 0 N) ∧ Below W1.heap.size W1 w') := by
                have := hidden_any ps (asc_of HASC.out) N 0 N h1 (Nat.le_refl _) (by omega) cp ap W1 (by rw [HSEG.out]; exact (HS.out W1 (Below.refl _ _)).2.2.2.1)
                rw [HSEG.out, ← HPQ.out, Nat.zero_add] at this
                exact this
              have HF4 : Hid (∀ i, i < nodes.length → (rat nodes i).length = 4) := fun i hi => hD.out i (by rw [HNQ.out]; exact hi)
              clear hD
              obtain ⟨hl, hhl⟩ : ∃ hl, hl = (hd2 ps N 0 N).length := ⟨_, rfl⟩
              have HHL := hid hhl
              have HHJ : Hid (∀ W, W = W1.drew → Calls Tryz.prog 29 #[.agg #[.int .i64 0, .int .i64 (N : Int)], .slice ap k cp] W fun e w' => ∃ av c5, e = .returned (.slice av hl c5) ∧ Below W1.heap.size W1 w') := fun W hW => by
                subst hW
                have hd1 : Below W1.heap.size W1 W1.drew := (Below.refl _ _).drew
                have := hidden_any ps (asc_of HASC.out) N 0 N h1 (Nat.le_refl _) (by omega) cp ap W1.drew (by rw [HSEG.out]; exact (HS.out _ hd1).2.2.2.1)
                rw [HSEG.out, ← HPQ.out, Nat.zero_add] at this
                refine this.mono ?_
                rintro e w5 ⟨v, rfl, hov, hb5⟩
                rcases hov.2 with ⟨rfl, h0⟩ | ⟨g5, c5, _, rfl, _⟩
                · exact ⟨none, 0, by rw [hhl, h0], hd1.trans hb5⟩
                · exact ⟨_, _, by rw [hhl], hd1.trans hb5⟩
              clear hhl HHI HSEG
              have HKe : Hid (∀ W, Below W1.heap.size W1 W → W.cell? ⟨w.heap.size + 1, 0, none⟩ = some (.slice ap k cp) ∧ W.cell? ⟨w.heap.size + 1, 2, none⟩ = some (.slice an' j cn) ∧ W.cell? ⟨w.heap.size, 0, none⟩ = some (.int .i64 0) ∧ W.cell? ⟨w.heap.size, 1, none⟩ = some (.int .i64 (N : Int))) := fun W h => by
                obtain ⟨a1, a2, a3, _⟩ := HS.out W h
                exact ⟨by rw [a1.c0, HPQ.out], by rw [a1.c2, HNQ.out], a2, a3⟩
              have hd1 : Below W1.heap.size W1 W1.drew := (Below.refl _ _).drew
              go_wp2_with fail
              go_region_held3 (fun W => W.cell? ⟨w.heap.size + 1, 0, none⟩ = some (.slice ap k cp) ∧ W.cell? ⟨w.heap.size + 1, 2, none⟩ = some (.slice an' j cn) ∧ W.cell? ⟨w.heap.size, 0, none⟩ = some (.int .i64 0) ∧ W.cell? ⟨w.heap.size, 1, none⟩ = some (.int .i64 (N : Int))) (exact HKe.out _ (by assumption))
                (first
                  | (go_at_call 29; refine (HHJ.out _ rfl).mono ?_; rintro e w5 ⟨av, c5, rfl, hb5⟩))
              have HB5 := hid ((HS.out w5 hb5).2.2.2.2.2)
              go_wp2_with fail
              go_ret
              refine ShwnR.mk ((j : Int) == (hl : Int)) ?_ HB5.out
              rw [beq_iff_eq]
              constructor
              · intro h
                exact ⟨HRP.out, HASC.out, HF4.out, by rw [← HNQ.out, ← HHL.out]; omega⟩
              · intro h
                have := h.2.2.2
                rw [← HNQ.out, ← HHL.out] at this
                omega
  · have hrp2 : ((rows.length : Int) != (ps.length : Int)) = true := by simp; omega
    have HRP := hid hrp
    clear hrp
    go_enter Tryz.func63, Tryz.ntmps63
    go_wp2_with fail
    go_ret
    exact ShwnR.no (fun h => HRP.out h.1) (((Below.refl _ _).alloc (Nat.le_refl _) _).alloc (by simp) _)

end Go.Proofs.YtionbilheeheaaeGreatDoor
