/- Package tree: isShown. Package tree: joined, hash, seeRow. Package tree: a walk's root. -/
import Derived.Test.YtmmlphdekeflfaaGreatDoorPcAI
import Derived.Test.YtmmlphdekeflfaaGreatDoorTres
import Derived.Test.YtmmlphdekeflfaaGreatDoorTrgs
import Derived.Test.YtmmlphdekeflfaaGreatDoorPcAH
namespace Go.Proofs.YtmmlphdekeflfaaGreatDoor
open Go.RowKit

theorem seg_all {ps : List Int} {N : Nat} (h : ∀ x ∈ ps, 0 ≤ x ∧ x < (N : Int)) : seg ps ((0 : Nat) : Int) (((0 : Nat) : Int) + (N : Int)) = ps := by
  unfold seg
  rw [List.filter_eq_self]
  intro x hx
  have := h x hx
  simp
  omega
theorem lack_all {ps : List Int} {N : Nat} (h : ps.any (lackb 0 N) = false) : ∀ x ∈ ps, 0 ≤ x ∧ x < (N : Int) := fun x hx => by
  have := List.any_eq_false.1 h x hx
  simp [lackb] at this
  omega

def ShwnR (N : Nat) (ps : List Int) (rows nodes : List (List Int)) (w : World) (e : Ending) (w' : World) : Prop := (∃ t, e = .returned (.bool t) ∧ (t = true ↔ shwn N ps rows nodes)) ∧ Below w.heap.size w w'
theorem ShwnR.no {N : Nat} {ps : List Int} {rows nodes : List (List Int)} {w w' : World} (h : ¬ shwn N ps rows nodes) (hb : Below w.heap.size w w') : ShwnR N ps rows nodes w (.returned (.bool false)) w' := ⟨⟨false, rfl, by simp; exact h⟩, hb⟩
theorem ShwnR.mk {N : Nat} {ps : List Int} {rows nodes : List (List Int)} {w w' : World} (t : Bool) (h : t = true ↔ shwn N ps rows nodes) (hb : Below w.heap.size w w') : ShwnR N ps rows nodes w (.returned (.bool t)) w' := ⟨⟨t, rfl, h⟩, hb⟩
/-- an Opening in memory -/
structure OpnAt (W : World) (O cp cr cn : Nat) (ap ar an' : Option Addr) (ps : List Int) (rows nodes : List (List Int)) : Prop where
  c0 : W.cell? ⟨O, 0, none⟩ = some (.slice ap ps.length cp)
  c1 : W.cell? ⟨O, 1, none⟩ = some (.slice ar rows.length cr)
  c2 : W.cell? ⟨O, 2, none⟩ = some (.slice an' nodes.length cn)

set_option maxRecDepth 100000 in
set_option maxHeartbeats 2000000 in
theorem isshown_any (N : Nat) (cp cr cn : Nat) (ap ar an' : Option Addr) (ps : List Int) (rows nodes : List (List Int)) (w : World) (h1 : 1 ≤ N) (hN : N ≤ 65536) (hpl : ps.length ≤ 281474976710656) (hnl : nodes.length ≤ 281474976710656) (hp : Lst w.heap.size w ap cp ps) (hn : LstR w.heap.size w an' cn nodes) :
    Calls Tryz.prog 133 #[gk 0 N, .agg #[.slice ap ps.length cp, .slice ar rows.length cr, .slice an' nodes.length cn]] w (ShwnR N ps rows nodes w) := by
  unfold gk
  have HL := hid hp
  have HNL := hid hn
  clear hp hn
  by_cases hrp : rows.length = ps.length
  · have hrp2 : ((rows.length : Int) != (ps.length : Int)) = false := by simp; omega
    have HRP := hid hrp
    clear hrp
    have HCO : Hid (∀ W, Below w.heap.size w W → Calls Tryz.prog 168 #[.slice ap ps.length cp, .func (Fn.func 145) #[.agg #[.int .i64 0, .int .i64 (N : Int)]] #[]] W fun e w' => e = .returned (.bool (ps.any (lackb 0 N))) ∧ Below W.heap.size W w') := fun W h => contains_any 0 N cp ap ps W hpl ((HL.out.row.below h).mono h.size)
    go_enter Tryz.func133, Tryz.ntmps133
    go_wp2_with fail
    have HO := hid (show OpnAt ((w.alloc (.cells #[.int .i64 0, .int .i64 (N : Int)] 135)).alloc (.cells #[.slice ap ps.length cp, .slice ar rows.length cr, .slice an' nodes.length cn] 49)) (w.heap.size + 1) cp cr cn ap ar an' ps rows nodes from by
      have h3 := tri_new (w.alloc (.cells #[.int .i64 0, .int .i64 (N : Int)] 135)) 49 (.slice ap ps.length cp) (.slice ar rows.length cr) (.slice an' nodes.length cn)
      rw [show (w.alloc (.cells #[.int .i64 0, .int .i64 (N : Int)] 135)).heap.size = w.heap.size + 1 from by simp] at h3
      exact ⟨h3.cell (i := 0) (by omega), h3.cell (i := 1) (by omega), h3.cell (i := 2) (by omega)⟩)
    have HG := hid ((duo_new w 135 (.int .i64 0) (.int .i64 (N : Int))).alloc (.cells #[.slice ap ps.length cp, .slice ar rows.length cr, .slice an' nodes.length cn] 49))
    have HB0 : Hid (Below w.heap.size w ((w.alloc (.cells #[.int .i64 0, .int .i64 (N : Int)] 135)).alloc (.cells #[.slice ap ps.length cp, .slice ar rows.length cr, .slice an' nodes.length cn] 49))) := ((Below.refl _ _).alloc (Nat.le_refl _) _).alloc (by simp) _
    have hs0 : ((w.alloc (.cells #[.int .i64 0, .int .i64 (N : Int)] 135)).alloc (.cells #[.slice ap ps.length cp, .slice ar rows.length cr, .slice an' nodes.length cn] 49)).heap.size = w.heap.size + 2 := by simp
    generalize (w.alloc (.cells #[.int .i64 0, .int .i64 (N : Int)] 135)).alloc (.cells #[.slice ap ps.length cp, .slice ar rows.length cr, .slice an' nodes.length cn] 49) = W0 at *
    refine (HCO.out W0 HB0.out).mono ?_
    rintro e W1 ⟨rfl, hb1⟩
    have HB1 : Hid (Below w.heap.size w W1) := HB0.out.trans (hb1.mono HB0.out.size)
    have HS : Hid (∀ W, Below W1.heap.size W1 W → OpnAt W (w.heap.size + 1) cp cr cn ap ar an' ps rows nodes ∧ W.cell? ⟨w.heap.size, 0, none⟩ = some (.int .i64 0) ∧ W.cell? ⟨w.heap.size, 1, none⟩ = some (.int .i64 (N : Int)) ∧ Lst W.heap.size W ap cp ps ∧ LstR W.heap.size W an' cn nodes ∧ Below w.heap.size w W) := fun W h => by
      have hb2 : Below W0.heap.size W0 W := hb1.trans (h.mono hb1.size)
      have hb3 := HB0.out.trans (hb2.mono HB0.out.size)
      exact ⟨⟨(hb2.cell (p := ⟨w.heap.size + 1, 0, none⟩) (by show w.heap.size + 1 < _; omega)).trans HO.out.c0, (hb2.cell (p := ⟨w.heap.size + 1, 1, none⟩) (by show w.heap.size + 1 < _; omega)).trans HO.out.c1, (hb2.cell (p := ⟨w.heap.size + 1, 2, none⟩) (by show w.heap.size + 1 < _; omega)).trans HO.out.c2⟩,
        (hb2.cell (p := ⟨w.heap.size, 0, none⟩) (by show w.heap.size < _; omega)).trans (HG.out.cell (i := 0) (by omega)), (hb2.cell (p := ⟨w.heap.size, 1, none⟩) (by show w.heap.size < _; omega)).trans (HG.out.cell (i := 1) (by omega)), (HL.out.below hb3).mono hb3.size, (HNL.out.below hb3).mono hb3.size, hb3⟩
    clear hb1 HO HG HB0 hs0 HCO
    cases hany : ps.any (lackb 0 N) with
    | true =>
      have HNO : Hid (¬ shwn N ps rows nodes) := fun h => by
        obtain ⟨x, hx, hl⟩ := List.any_eq_true.1 hany
        obtain ⟨j, hj, rfl⟩ := mem_zat hx
        have := h.2.1 j hj
        simp [lackb] at hl
        omega
      clear hany
      go_wp2_with fail
      go_ret
      exact ShwnR.no HNO.out HB1.out
    | false =>
      have HIN := hid (lack_all hany)
      clear hany
      have hO1 := (HS.out W1 (Below.refl _ _)).1
      have hg0 := (HS.out W1 (Below.refl _ _)).2.1
      have hg1 := (HS.out W1 (Below.refl _ _)).2.2.1
      have k0 := hO1.c0
      have k2 := hO1.c2
      clear hO1
      obtain ⟨pl, hpq⟩ : ∃ pl, pl = ps.length := ⟨_, rfl⟩
      rw [← hpq] at k0 hpl
      have HPQ := hid hpq
      have HROW : Hid (∀ k, k < pl → ∃ bl ol, ap = some ⟨bl, ol, none⟩ ∧ W1.cell? ⟨bl, ol + k, none⟩ = some (.int .i64 (zat ps k))) := fun k hk => by
        obtain ⟨b, o, e1, e2, e3⟩ := (HS.out W1 (Below.refl _ _)).2.2.2.1.row k (by rw [← hpq]; exact hk)
        exact ⟨b, o, e1, e3⟩
      rw [← hpq]
      clear hpq
      go_wp2_with fail
      go_loop [26] (fun iv => ∃ k : Nat, k ≤ pl ∧ iv = .int .i64 k ∧ Hid (∀ j, 0 < j → j < k → zat ps (j - 1) < zat ps j)) (fun iv => pl - (intOf iv).toNat)
      case atStart => exact ⟨0, by omega, rfl, fun j _ hj => by omega⟩
      case round =>
        obtain ⟨k, hk, rfl, hC⟩ := hrel
        by_cases hlt : k < pl
        · have hlt2 : (k : Int) < (pl : Int) := by omega
          have hks : IntKind.i64.wrap ((k : Int) + 1) = (k : Int) + 1 := by rw [IntKind.wrap_i64]; omega
          obtain ⟨bl, ol, rfl, hcl⟩ := HROW.out k hlt
          by_cases hk0 : k = 0
          · subst hk0
            rw [Nat.add_zero] at hcl
            have HE : Hid (∀ j, 0 < j → j < 0 + 1 → zat ps (j - 1) < zat ps j) := fun j h1 h2 => by omega
            clear hC
            go_wp2_with fail
            go_round
            case rel => exact ⟨0 + 1, by omega, by go_num, HE⟩
            case measure => simp [intOf]; omega
          · have hk1 : (0 : Int) < (k : Int) := by omega
            obtain ⟨bl', ol', e1, hcl'⟩ := HROW.out (k - 1) (by omega)
            cases e1
            have hkm : (k : Int) - 1 = ((k - 1 : Nat) : Int) := by omega
            have hkm2 : ((k - 1 : Nat) : Int) < (pl : Int) := by omega
            have HV : Hid (∀ j, j = k - 1 → zat ps j = zat ps (k - 1)) := fun j h => by rw [h]
            by_cases hge : zat ps k ≤ zat ps (k - 1)
            · have HNO : Hid (¬ shwn N ps rows nodes) := fun h => by
                have := (h.2.1 k (by rw [← HPQ.out]; exact hlt)).2.2 (by omega)
                omega
              clear hC
              obtain ⟨k', rfl⟩ : ∃ k', k = k' + 1 := ⟨k - 1, by omega⟩
              simp only [Nat.add_sub_cancel] at hge hcl' hkm hkm2
              generalize zat ps (k' + 1) = x at *
              generalize zat ps k' = y at *
              go_wp2_with fail
              go_ret
              exact ShwnR.no HNO.out HB1.out
            · have HE : Hid (∀ j, 0 < j → j < k + 1 → zat ps (j - 1) < zat ps j) := fun j h1 h2 => by
                rcases Nat.lt_or_ge j k with h' | h'
                · exact hC.out j h1 h'
                · rw [show j = k by omega]; omega
              clear hC
              have hge2 : ¬ zat ps k ≤ zat ps (k - 1) := hge
              obtain ⟨k', rfl⟩ : ∃ k', k = k' + 1 := ⟨k - 1, by omega⟩
              simp only [Nat.add_sub_cancel] at hge2 hge hcl' hkm hkm2
              generalize zat ps (k' + 1) = x at *
              generalize zat ps k' = y at *
              go_wp2_with fail
              go_round
              case rel => exact ⟨k' + 1 + 1, by omega, by go_num, HE⟩
              case measure => simp [intOf]; omega
        · obtain rfl : k = pl := by omega
          have HASC : Hid (AscN (N : Int) ps) := fun j hj => ⟨(HIN.out _ (zat_mem hj)).1, (HIN.out _ (zat_mem hj)).2, fun h => hC.out j h (by rw [HPQ.out]; exact hj)⟩
          clear hC
          obtain ⟨nl, hnq⟩ : ∃ nl, nl = nodes.length := ⟨_, rfl⟩
          rw [← hnq] at k2 hnl
          have HNQ := hid hnq
          have HROW2 : Hid (∀ j, j < nl → ∃ bl ol ak ck, an' = some ⟨bl, ol, none⟩ ∧ W1.cell? ⟨bl, ol + j, none⟩ = some (.slice ak (rat nodes j).length ck)) := fun j hj => by
            obtain ⟨b, o, ak, ck, e1, e2, e3, _⟩ := (HS.out W1 (Below.refl _ _)).2.2.2.2.1.row j (by rw [← hnq]; exact hj)
            exact ⟨b, o, ak, ck, e1, e3⟩
          rw [← hnq]
          clear hnq
          go_wp2_with fail
          go_loop [47] (fun iv => ∃ j : Nat, j ≤ nl ∧ iv = .int .i64 j ∧ Hid (∀ i, i < j → (rat nodes i).length = 4)) (fun iv => nl - (intOf iv).toNat)
          case atStart => exact ⟨0, by omega, rfl, fun i hi => by omega⟩
          case round =>
            obtain ⟨j, hj, rfl, hD⟩ := hrel
            by_cases hlt2 : j < nl
            · have hlt3 : (j : Int) < (nl : Int) := by omega
              have hks : IntKind.i64.wrap ((j : Int) + 1) = (j : Int) + 1 := by rw [IntKind.wrap_i64]; omega
              obtain ⟨bl, ol, ak, ck, rfl, hcl⟩ := HROW2.out j hlt2
              have hdg := isdigest_any ak (rat nodes j).length ck W1
              by_cases h4 : (rat nodes j).length = 4
              · rw [decide_eq_true h4, h4] at hdg
                rw [h4] at hcl
                have HE : Hid (∀ i, i < j + 1 → (rat nodes i).length = 4) := fun i hi => by
                  rcases Nat.lt_or_ge i j with h' | h'
                  · exact hD.out i h'
                  · rw [show i = j by omega]; exact h4
                have HDG := hid hdg
                clear hD hdg h4
                go_wp2_with fail
                refine HDG.out.mono ?_
                rintro e w5 ⟨rfl, rfl⟩
                go_wp2_with fail
                go_round
                case rel => exact ⟨j + 1, by omega, by go_num, HE⟩
                case measure => simp [intOf]; omega
              · rw [decide_eq_false h4] at hdg
                have HNO : Hid (¬ shwn N ps rows nodes) := fun h => h4 (h.2.2.1 j (by rw [← HNQ.out]; exact hlt2))
                have HDG := hid hdg
                generalize (rat nodes j).length = ln at *
                clear hD hdg h4
                go_wp2_with fail
                refine HDG.out.mono ?_
                rintro e w5 ⟨rfl, rfl⟩
                go_wp2_with fail
                go_ret
                exact ShwnR.no HNO.out HB1.out
            · obtain rfl : j = nl := by omega
              have HSEG := hid (seg_all (N := N) HIN.out)
              have HHI : Hid (Calls Tryz.prog 135 #[.agg #[.int .i64 0, .int .i64 (N : Int)], .slice ap k cp] W1 fun e w' => ∃ v, e = .returned v ∧ OwnG W1.heap.size w' v (hd2 ps N 0 N) ∧ Below W1.heap.size W1 w') := by
                have := hidden_any ps (asc_of HASC.out) N 0 N h1 (Nat.le_refl _) (by omega) cp ap W1 (by rw [HSEG.out]; exact (HS.out W1 (Below.refl _ _)).2.2.2.1)
                rw [HSEG.out, ← HPQ.out, Nat.zero_add] at this
                exact this
              have HF4 : Hid (∀ i, i < nodes.length → (rat nodes i).length = 4) := fun i hi => hD.out i (by rw [HNQ.out]; exact hi)
              clear hD
              obtain ⟨hl, hhl⟩ : ∃ hl, hl = (hd2 ps N 0 N).length := ⟨_, rfl⟩
              have HHL := hid hhl
              have HHJ : Hid (∀ W, W = W1.drew → Calls Tryz.prog 135 #[.agg #[.int .i64 0, .int .i64 (N : Int)], .slice ap k cp] W fun e w' => ∃ av c5, e = .returned (.slice av hl c5) ∧ Below W1.heap.size W1 w') := fun W hW => by
                subst hW
                have hd1 : Below W1.heap.size W1 W1.drew := (Below.refl _ _).drew
                have := hidden_any ps (asc_of HASC.out) N 0 N h1 (Nat.le_refl _) (by omega) cp ap W1.drew (by rw [HSEG.out]; exact (HS.out _ hd1).2.2.2.1)
                rw [HSEG.out, ← HPQ.out, Nat.zero_add] at this
                refine this.mono ?_
                rintro e w5 ⟨v, rfl, hov, hb5⟩
                rcases hov.2 with ⟨rfl, h0⟩ | ⟨g5, c5, _, rfl, _⟩
                · exact ⟨none, 0, by rw [hhl, h0], hd1.trans hb5⟩
                · exact ⟨_, _, by rw [hhl], hd1.trans hb5⟩
              clear hhl HHI HSEG
              have HKe : Hid (∀ W, Below W1.heap.size W1 W → W.cell? ⟨w.heap.size + 1, 0, none⟩ = some (.slice ap k cp) ∧ W.cell? ⟨w.heap.size + 1, 2, none⟩ = some (.slice an' j cn) ∧ W.cell? ⟨w.heap.size, 0, none⟩ = some (.int .i64 0) ∧ W.cell? ⟨w.heap.size, 1, none⟩ = some (.int .i64 (N : Int))) := fun W h => by
                obtain ⟨a1, a2, a3, _⟩ := HS.out W h
                exact ⟨by rw [a1.c0, HPQ.out], by rw [a1.c2, HNQ.out], a2, a3⟩
              have hd1 : Below W1.heap.size W1 W1.drew := (Below.refl _ _).drew
              go_wp2_with fail
              go_region_held3 (fun W => W.cell? ⟨w.heap.size + 1, 0, none⟩ = some (.slice ap k cp) ∧ W.cell? ⟨w.heap.size + 1, 2, none⟩ = some (.slice an' j cn) ∧ W.cell? ⟨w.heap.size, 0, none⟩ = some (.int .i64 0) ∧ W.cell? ⟨w.heap.size, 1, none⟩ = some (.int .i64 (N : Int))) (exact HKe.out _ (by assumption))
                (first
                  | (go_at_call 135; refine (HHJ.out _ rfl).mono ?_; rintro e w5 ⟨av, c5, rfl, hb5⟩))
              have HB5 := hid ((HS.out w5 hb5).2.2.2.2.2)
              go_wp2_with fail
              go_ret
              refine ShwnR.mk ((j : Int) == (hl : Int)) ?_ HB5.out
              rw [beq_iff_eq]
              constructor
              · intro h
                exact ⟨HRP.out, HASC.out, HF4.out, by rw [← HNQ.out, ← HHL.out]; omega⟩
              · intro h
                have := h.2.2.2
                rw [← HNQ.out, ← HHL.out] at this
                omega
  · have hrp2 : ((rows.length : Int) != (ps.length : Int)) = true := by simp; omega
    have HRP := hid hrp
    clear hrp
    go_enter Tryz.func133, Tryz.ntmps133
    go_wp2_with fail
    go_ret
    exact ShwnR.no (fun h => HRP.out h.1) (((Below.refl _ _).alloc (Nat.le_refl _) _).alloc (by simp) _)

end Go.Proofs.YtmmlphdekeflfaaGreatDoor

namespace Go.Proofs.YtmmlphdekeflfaaGreatDoor
open Go.RowKit

theorem flat_snoc {rows : List (List Int)} {k : Nat} (h : k < rows.length) : (rows.take (k + 1)).flatten = (rows.take k).flatten ++ rat rows k := by
  have e : rows.take (k + 1) = rows.take k ++ [rat rows k] := by
    rw [List.take_add_one, List.getElem?_eq_getElem h]
    unfold rat
    rw [List.getD_eq_getElem?_getD, List.getElem?_eq_getElem h]
    rfl
  rw [e, List.flatten_append]
  simp
theorem flat_le {rows : List (List Int)} (k : Nat) : (rows.take k).flatten.length ≤ rows.flatten.length := by
  have := congrArg (fun l => (List.flatten l).length) (List.take_append_drop k rows)
  simp only [List.flatten_append, List.length_append] at this
  omega

theorem hidK {α β : Type} {A B : α → β → Prop} {C : α → β → Prop} (h : ∀ x y, Hid (A x y) → B x y → C x y) : ∀ x y, A x y → B x y → C x y := fun x y a b => h x y a b

set_option maxRecDepth 100000 in
set_option maxHeartbeats 1000000 in
theorem joined_any (mark : Int) (cap : Nat) (a : Option Addr) (rows : List (List Int)) (w : World) (hlen : rows.flatten.length ≤ 17592186044300) (hrl : rows.length ≤ 17592186044300) (hl : LstR w.heap.size w a cap rows) :
    Calls Tryz.prog 142 #[.int .i64 mark, .slice a rows.length cap] w fun e w' => ∃ v, e = .returned v ∧ w'.ownsRow w.heap.size 3 1 v (mark :: rows.flatten).length ((mark :: rows.flatten).map (Value.int .i64)) ∧ Below w.heap.size w w' := by
  have HL := hid hl
  have HFL := hid hlen
  clear hl hlen
  have HO := hid (owns_one w mark)
  have HBA : Hid (Below w.heap.size w (w.alloc (.cells #[.int .i64 mark] 3))) := (Below.refl _ _).alloc (Nat.le_refl _) _
  obtain ⟨m, hm⟩ : ∃ m, m = rows.length := ⟨_, rfl⟩
  rw [← hm] at hrl ⊢
  have HM := hid hm
  clear hm
  go_enter Tryz.func142, Tryz.ntmps142
  go_wp2_with fail
  go_loopw [5, 12] (fun v iv wr => ∃ k : Nat, k ≤ m ∧ iv = .int .i64 k ∧ Hid (wr.ownsRow w.heap.size 3 1 v (mark :: (rows.take k).flatten).length ((mark :: (rows.take k).flatten).map (Value.int .i64)) ∧ Below w.heap.size w wr))
    (fun _ iv _ => m - (intOf iv).toNat)
  case atStart =>
    exact ⟨0, by omega, rfl, HO.out, HBA.out⟩
  case round =>
    obtain ⟨k, hk, rfl, hC⟩ := hrel
    by_cases hlt : k < m
    · have hlt2 : (k : Int) < (m : Int) := by omega
      have hks : IntKind.i64.wrap ((k : Int) + 1) = (k : Int) + 1 := by rw [IntKind.wrap_i64]; omega
      obtain ⟨bl, ol, ak, ck, rfl, hbl', hcl, hlk⟩ := HL.out.row k (by rw [← HM.out]; exact hlt)
      have hcl2 := (hC.out.2.cell (p := ⟨bl, ol + k, none⟩) hbl').trans hcl
      have HLK := hid (hlk.below hC.out.2)
      have HLE : Hid ((mark :: (rows.take k).flatten).length + (rat rows k).length ≤ 17592186044416) := by
        have e1 := flat_snoc (rows := rows) (k := k) (by rw [← HM.out]; exact hlt)
        have e2 := flat_le (rows := rows) (k + 1)
        have e3 := HFL.out
        rw [e1, List.length_append] at e2
        show _ + 1 + _ ≤ _
        omega
      have HSN : Hid (mark :: (rows.take (k + 1)).flatten = (mark :: (rows.take k).flatten) ++ rat rows k) := by unfold Hid; rw [flat_snoc (by rw [← HM.out]; exact hlt)]; rfl
      obtain ⟨Z, hZ⟩ : ∃ Z, Z = mark :: (rows.take k).flatten := ⟨_, rfl⟩
      obtain ⟨Y, hY⟩ : ∃ Y, Y = rat rows k := ⟨_, rfl⟩
      rw [← hZ, ← hY] at HSN HLE
      rw [← hZ] at hC
      rw [← hY] at HLK hcl2
      clear hcl hbl' hlk hZ hY
      go_wp2_with (at_builtin; refine wpList_appendL wr w.heap.size w.heap.size rfl _ _ rfl _ rfl _ _ hC.out.1 _ _ rfl HLE.out hC.out.2.size HLK.out ?_; refine hidK ?_)
      intro v' w2 HOW hb2
      have HE : Hid (w2.ownsRow w.heap.size 3 1 v' (mark :: (rows.take (k + 1)).flatten).length ((mark :: (rows.take (k + 1)).flatten).map (Value.int .i64)) ∧ Below w.heap.size w w2) := by
        unfold Hid
        rw [HSN.out, List.length_append, List.map_append]
        exact ⟨HOW.out, hC.out.2.trans hb2⟩
      clear HOW hb2
      go_wp2_with fail
      go_roundw
      case rel => exact ⟨k + 1, by omega, by go_num, HE⟩
      case measure => simp [intOf]; omega
    · obtain rfl : k = m := by omega
      have HT : Hid (rows.take k = rows) := by unfold Hid; rw [HM.out, List.take_length]
      have HE := hC
      rw [HT.out] at HE
      clear hC
      go_wp2_with fail
      go_ret
      exact ⟨_, rfl, HE.out⟩

theorem an4 (f : Nat → Int) : an 4 f = #[.int .i64 (f 0), .int .i64 (f 1), .int .i64 (f 2), .int .i64 (f 3)] := rfl

theorem arr4_set {W : World} {g : Nat} {t : TypeId} {f : Nat → Int} (h : ArrI W g t 4 f) (G : Nat → Int) : ArrI ((((W.setCell ⟨g, 0, none⟩ (.int .i64 (G 0))).setCell ⟨g, 1, none⟩ (.int .i64 (G 1))).setCell ⟨g, 2, none⟩ (.int .i64 (G 2))).setCell ⟨g, 3, none⟩ (.int .i64 (G 3))) g t 4 G :=
  ((((h.set 0 (G 0)).set 1 (G 1)).set 2 (G 2)).set 3 (G 3)).congr (fun j hj => by
    have : j = 0 ∨ j = 1 ∨ j = 2 ∨ j = 3 := by omega
    rcases this with rfl | rfl | rfl | rfl <;> rfl)

set_option maxRecDepth 100000 in
set_option maxHeartbeats 2000000 in
theorem whash_any (q n d b s g B cap : Nat) (mark : Int) (a : Option Addr) (rows : List (List Int)) (w : World) (ok : SpgOk q n d) (hs : SpgAt w s b q n d) (hw : WlkAt w g B s) (hlen : rows.flatten.length ≤ 17592186044300) (hrl : rows.length ≤ 17592186044300) (hfit : Fits (mark :: rows.flatten)) (hl : LstR w.heap.size w a cap rows) :
    Calls Tryz.prog 183 #[.pointer (some ⟨g, 0, none⟩), .int .i64 mark, .slice a rows.length cap] w fun e w' => e = .returned (.agg (an 4 (zat (digl q n (mark :: rows.flatten))))) ∧ Below w.heap.size w w' := by
  have h3 : 3 ≤ q := by have := ok.h23; omega
  have hm := ok.hm
  have HOK := hid ok
  have HS := hid hs
  have HW := hid hw
  have HFT := hid hfit
  have HL := hid hl
  have HLE := hid hlen
  have hgl := hw.lt
  obtain ⟨L, hL⟩ : ∃ L, L = mark :: rows.flatten := ⟨_, rfl⟩
  rw [← hL]
  have HLQ := hid hL
  clear ok hs hw hfit hl hlen hL
  go_enter Tryz.func183, Tryz.ntmps183
  go_wp2_with fail
  have HA0 := hid (ArrI.new w 4 176 (fun _ => 0))
  rw [an4] at HA0
  have HB0 : Hid (Below w.heap.size w (w.alloc (.cells #[.int .i64 0, .int .i64 0, .int .i64 0, .int .i64 0] 176))) := (Below.refl _ _).alloc (Nat.le_refl _) _
  generalize w.alloc (.cells #[.int .i64 0, .int .i64 0, .int .i64 0, .int .i64 0] 176) = W0 at *
  have hL := HLQ.out
  have HLL : Hid (L.length ≤ 17592186044400) := by unfold Hid; rw [hL]; simp only [List.length_cons]; have := HLE.out; omega
  have HFL : Hid (Fits L) := by unfold Hid; rw [hL]; exact HFT.out
  have hne : w.heap.size ≠ g := by omega
  have HFI : Hid (∀ W, Below W0.heap.size W0 W → Calls Tryz.prog 8 #[.pointer (some ⟨s, 0, none⟩)] W fun e w' => e = .returned (.pointer (some ⟨b, 0, none⟩)) ∧ w' = W) := fun W h => sfield_any q n d b s W ((HS.out.keep HB0.out).keep h)
  have HJ : Hid (∀ W, Below W0.heap.size W0 W → Calls Tryz.prog 142 #[.int .i64 mark, .slice a rows.length cap] W fun e w' => ∃ v, e = .returned v ∧ Hid (w'.ownsRow W.heap.size 3 1 v L.length (L.map (Value.int .i64))) ∧ Below W0.heap.size W0 w') := fun W h => by
    have hb := HB0.out.trans (h.mono HB0.out.size)
    refine (joined_any mark cap a rows W HLE.out hrl ((HL.out.below hb).mono hb.size)).mono ?_
    rintro e w' ⟨v, rfl, h1, h2⟩
    rw [← hL] at h1
    exact ⟨v, rfl, h1, h.trans (h2.mono h.size)⟩
  have HH : Hid (∀ (W : World) (v : Value) (bs : Nat), Hid (W.ownsRow bs 3 1 v L.length (L.map (Value.int .i64))) → Below W0.heap.size W0 W → Calls Tryz.prog 30 #[.pointer (some ⟨s, 0, none⟩), v] W fun e w' => ∃ x : Nat, e = .returned (.slice (some ⟨x, 0, none⟩) 4 4) ∧ Hid (RowB w'.heap.size w' (some ⟨x, 0, none⟩) (digl q n L)) ∧ Below W0.heap.size W0 w') := fun W v bs h0 h => by
    obtain ⟨a2, c2, rfl, hl2⟩ := lst_of_owns h0.out
    refine (shash_any q n d b s L.length c2 a2 (zat L) W HOK.out ((HS.out.keep HB0.out).keep h) HLL.out (fun j _ => HFL.out.all j) (fun j hj => hl2.row j hj)).mono ?_
    rintro e w' ⟨rfl, h1, h2⟩
    refine ⟨_, rfl, ?_, h.trans (h2.mono h.size)⟩
    intro j hj
    rw [digl_len] at hj
    refine ⟨_, 0, rfl, h1.lt, ?_⟩
    rw [Nat.zero_add, h1.cell (by omega)]
    unfold digl
    rw [ls_at _ _ _ hj]
  have HD : Hid (∀ (W : World) (x : Nat), Hid (RowB W.heap.size W (some ⟨x, 0, none⟩) (digl q n L)) → Below W0.heap.size W0 W → Calls Tryz.prog 136 #[.pointer (some ⟨b, 0, none⟩), .slice (some ⟨x, 0, none⟩) 4 4] W fun e w' => e = .returned (.agg (an 4 (zat (digl q n L)))) ∧ Below W0.heap.size W0 w') := fun W x h0 h => by
    refine (digestof_any q b 4 (some ⟨x, 0, none⟩) (digl q n L) W h3 hm ((HS.out.keep HB0.out).keep h).p (digl_len _ _ _) (digl_fits h3 hm n L) h0.out).mono ?_
    rintro e w' ⟨rfl, h2⟩
    refine ⟨?_, h.trans (h2.mono h.size)⟩
    rw [an_congr (g := zat (digl q n L))]
    intro j hj
    have := congrArg (fun l => zat l j) (elr_digl h3 n L)
    simp only [elr] at this
    rw [ls_at _ _ _ (by rw [digl_len]; exact hj)] at this
    exact this
  have hKeep : ∀ W, Below W0.heap.size W0 W → W.cell? ⟨g, 0, none⟩ = some (.pointer (some ⟨s, 0, none⟩)) := fun W h => (h.cell (p := ⟨g, 0, none⟩) (by have := HB0.out.size; show g < _; omega)).trans ((HB0.out.cell (p := ⟨g, 0, none⟩) hgl).trans HW.out.c0)
  have HK := hid hKeep
  have HE : Hid (∀ W, Below W0.heap.size W0 W → ArrI W w.heap.size 176 4 (fun _ => 0)) := fun W h => HA0.out.block (h.block _ HA0.out.lt)
  have hb00 : Below W0.heap.size W0 W0.drew := (Below.refl _ _).drew
  clear hKeep hL HLQ HFT HL HLE HW HOK HS HFL HLL
  go_region_held3 (fun w' => w'.cell? ⟨g, 0, none⟩ = some (.pointer (some ⟨s, 0, none⟩))) (first | exact HK.out _ (by assumption) | go_keep)
    (first
      | (go_at_call 8; refine (HFI.out _ (by assumption)).mono ?_; rintro e w' ⟨rfl, rfl⟩)
      | (go_at_call 142; refine (HJ.out _ (by assumption)).mono ?_; rintro e w' ⟨v, rfl, hown, hbj⟩)
      | (go_at_call 30; refine (HH.out _ _ _ (by assumption) (by assumption)).mono ?_; rintro e w' ⟨x, rfl, hrowx, hbh⟩)
      | (go_at_call 136; refine (HD.out _ _ (by assumption) (by assumption)).mono ?_; rintro e w' ⟨rfl, hbd⟩; rw [an4]; have y0 := (HE.out _ hbd).frozen 0; have y1 := (HE.out _ hbd).frozen 1; have y2 := (HE.out _ hbd).frozen 2; have y3 := (HE.out _ hbd).frozen 3; have z0 := (HE.out _ hbd).cell (i := 0) (by decide); have z1 := (HE.out _ hbd).cell (i := 1) (by decide); have z2 := (HE.out _ hbd).cell (i := 2) (by decide); have z3 := (HE.out _ hbd).cell (i := 3) (by decide)))
  have HF4 := hid (arr4_set (HE.out _ hbd) (zat (digl q n L)))
  have HBE : Hid (Below w.heap.size w ((((w'.setCell ⟨w.heap.size, 0, none⟩ (.int .i64 (zat (digl q n L) 0))).setCell ⟨w.heap.size, 1, none⟩ (.int .i64 (zat (digl q n L) 1))).setCell ⟨w.heap.size, 2, none⟩ (.int .i64 (zat (digl q n L) 2))).setCell ⟨w.heap.size, 3, none⟩ (.int .i64 (zat (digl q n L) 3)))) :=
    ((((HB0.out.trans (hbd.mono HB0.out.size)).setCell (p := ⟨w.heap.size, 0, none⟩) (Nat.le_refl _) _).setCell (p := ⟨w.heap.size, 1, none⟩) (Nat.le_refl _) _).setCell (p := ⟨w.heap.size, 2, none⟩) (Nat.le_refl _) _).setCell (p := ⟨w.heap.size, 3, none⟩) (Nat.le_refl _) _
  clear y0 y1 y2 y3 z0 z1 z2 z3
  go_wp2_with fail
  refine bodyPost_ret (results_an rfl _ _ w.heap.size 176 4 _ _ (zat (digl q n L)) rfl HF4.out Tryz.underlying176 (by kernel_rfl)) rfl ?_
  exact ⟨rfl, HBE.out⟩

theorem lstR_one {w : World} {a : Option Addr} {cap : Nat} {row : List Int} (hl : Lst w.heap.size w a cap row) : LstR (w.heap.size + 1) (w.drew.alloc (.cells #[.slice a row.length cap] 23)) (some ⟨w.heap.size, 0, none⟩) 1 [row] := by
  have hb : Below w.heap.size w (w.drew.alloc (.cells #[.slice a row.length cap] 23)) := (Below.refl _ _).drew.alloc (Nat.le_refl _) _
  refine ⟨fun k hk => ?_, Nat.le_refl _, fun h => by cases h⟩
  obtain rfl : k = 0 := by simp at hk; omega
  refine ⟨w.heap.size, 0, a, cap, rfl, by omega, ?_, (hl.below hb).mono (by omega)⟩
  have := heap_alloc_new w.drew (.cells #[.slice a row.length cap] 23)
  unfold World.cell?
  rw [show (w.drew.alloc (.cells #[.slice a row.length cap] 23)).heap[(⟨w.heap.size, 0 + 0, none⟩ : Addr).block]? = some (.cells #[.slice a row.length cap] 23 (0, 0)) from this]
  rfl

set_option maxRecDepth 100000 in
set_option maxHeartbeats 2000000 in
theorem seerow_any (q n d b s g B cap x : Nat) (a : Option Addr) (row : List Int) (M : Nat → Nat → Option (List Int)) (w : World) (ok : SpgOk q n d) (hs : SpgAt w s b q n d) (hw : WlkAt w g B s) (hM : MapIs w B M) (hx : x ≤ 1000000) (hlen : row.length ≤ 17592186044000) (hfit : Fits row) (hl : Lst w.heap.size w a cap row) :
    Calls Tryz.prog 137 #[.pointer (some ⟨g, 0, none⟩), .int .i64 (x : Int), .slice a row.length cap] w fun e w' => e = .returned (.tuple #[]) ∧ MapIs w' B (upd M x (x + 1) (digl q n (0 :: row))) ∧ w.grownBy w' (some B) := by
  have c1 := hw.c1
  have hgl := hw.lt
  have hBl := hM.lt
  have hBg : B ≠ g := fun e => by
    obtain ⟨es, ck, h1, _⟩ := hM
    unfold WlkAt at hw
    rw [e, hw] at h1
    cases h1
  have HB1 : Hid (Below w.heap.size w (w.drew.alloc (.cells #[.slice a row.length cap] 23))) := (Below.refl _ _).drew.alloc (Nat.le_refl _) _
  have HH : Hid (Calls Tryz.prog 183 #[.pointer (some ⟨g, 0, none⟩), .int .i64 0, .slice (some ⟨w.heap.size, 0, none⟩) 1 1] (w.drew.alloc (.cells #[.slice a row.length cap] 23)) fun e w' => e = .returned (.agg #[.int .i64 (zat (digl q n (0 :: row)) 0), .int .i64 (zat (digl q n (0 :: row)) 1), .int .i64 (zat (digl q n (0 :: row)) 2), .int .i64 (zat (digl q n (0 :: row)) 3)]) ∧ w'.cell? ⟨g, 1, none⟩ = some (.map (some B)) ∧ ∃ w2, (Instr.mapUpdate 178 (.map (some B)) (.agg #[.int .i64 (x : Int), .int .i64 ((x : Int) + 1)]) (.agg #[.int .i64 (zat (digl q n (0 :: row)) 0), .int .i64 (zat (digl q n (0 :: row)) 1), .int .i64 (zat (digl q n (0 :: row)) 2), .int .i64 (zat (digl q n (0 :: row)) 3)])).run Tryz.prog w' = .ok () w2 ∧ w2.cell? ⟨g, 1, none⟩ = some (.map (some B)) ∧ Hid (MapIs w2 B (upd M x (x + 1) (digl q n (0 :: row))) ∧ w.grownBy w2 (some B))) := by
    have hlr := lstR_one hl
    have e0 : (0 :: row) = 0 :: [row].flatten := by simp
    refine (whash_any q n d b s g B 1 0 (some ⟨w.heap.size, 0, none⟩) [row] (w.drew.alloc (.cells #[.slice a row.length cap] 23)) ok (hs.keep HB1.out) (hw.block (HB1.out.block _ hgl)) (by simp; omega) (by simp) (by rw [← e0]; exact fits_cons (by omega) hfit) ?_).mono ?_
    · have hsz : (w.drew.alloc (.cells #[.slice a row.length cap] 23)).heap.size = w.heap.size + 1 := by simp
      rw [hsz]
      exact hlr
    · rintro e w' ⟨rfl, hb⟩
      rw [← e0]
      have hb2 := HB1.out.trans (hb.mono HB1.out.size)
      obtain ⟨w2, h1, h2, h3⟩ := (hM.below hb2 hBl).update (a := x) (b := x + 1) (by omega) (by omega) (digl q n (0 :: row))
      rw [an4, show gk x (x + 1) = .agg #[.int .i64 (x : Int), .int .i64 ((x : Int) + 1)] from by simp [gk]] at h1
      have c2 := (hb2.cell (p := ⟨g, 1, none⟩) hgl).trans c1
      exact ⟨rfl, c2, w2, h1, (gb_cell h3 (p := ⟨g, 1, none⟩) (by have := hb2.size; show g < _; omega) (Ne.symm hBg)).trans c2, h2, gb_trans (gb_below hb2) h3⟩
  have hwr : IntKind.i64.wrap ((x : Int) + 1) = (x : Int) + 1 := by rw [IntKind.wrap_i64]; omega
  clear ok hs hw hM hfit hl HB1
  generalize digl q n (0 :: row) = DL at *
  go_enter Tryz.func137, Tryz.ntmps137
  go_wp2_with fail
  go_region_held3 (fun w' => w'.cell? ⟨g, 1, none⟩ = some (.map (some B))) (go_keep)
    (first
      | (go_at_call 183; refine HH.out.mono ?_; rintro e w' ⟨rfl, c2, w2, hrun, c3, hE⟩))
  go_wp2_with fail
  go_end0
  exact ⟨rfl, hE.out⟩

end Go.Proofs.YtmmlphdekeflfaaGreatDoor

namespace Go.Proofs.YtmmlphdekeflfaaGreatDoor
open Go.RowKit

/-- what is found is right -/
def Snd (M : Nat → Nat → Option (List Int)) (D : Nat → Nat → List Int) : Prop := ∀ a b d, M a b = some d → d = D a b
/-- what was found stays -/
def Sub (M M' : Nat → Nat → Option (List Int)) : Prop := ∀ a b, M a b ≠ none → M' a b ≠ none
/-- of what is new both parts are found -/
def ClM (M M' : Nat → Nat → Option (List Int)) : Prop := ∀ a b, M' a b ≠ none → M a b ≠ none ∨ (2 ≤ b - a ∧ M' a (a + lft (b - a)) ≠ none ∧ M' (a + lft (b - a)) b ≠ none)

/-- the first of a walk's root: is it found? -/
structure RootW (w W1 : World) (g B s x y : Nat) (M : Nat → Nat → Option (List Int)) : Prop where
  below : Below w.heap.size w W1
  size : W1.heap.size = w.heap.size + 2
  key : W1.rowIs w.heap.size 135 2 (duo (.int .i64 (x : Int)) (.int .i64 (y : Int)))
  res : ArrI W1 (w.heap.size + 1) 176 4 (fun _ => 0)
  map : MapIs W1 B M
  c1 : W1.cell? ⟨g, 1, none⟩ = some (.map (some B))
theorem rootW_new {w : World} {g B s x y : Nat} {M : Nat → Nat → Option (List Int)} (hw : WlkAt w g B s) (hM : MapIs w B M) : RootW w ((w.alloc (.cells #[.int .i64 (x : Int), .int .i64 (y : Int)] 135)).alloc (.cells #[.int .i64 0, .int .i64 0, .int .i64 0, .int .i64 0] 176)) g B s x y M := by
  have hb : Below w.heap.size w ((w.alloc (.cells #[.int .i64 (x : Int), .int .i64 (y : Int)] 135)).alloc (.cells #[.int .i64 0, .int .i64 0, .int .i64 0, .int .i64 0] 176)) := ((Below.refl _ _).alloc (Nat.le_refl _) _).alloc (by simp) _
  exact ⟨hb, by simp, (duo_new w _ _ _).alloc _, ArrI.new2 w _ 4 176 (fun _ => 0), hM.below hb hM.lt, (hb.cell (p := ⟨g, 1, none⟩) hw.lt).trans hw.c1⟩

set_option maxRecDepth 100000 in
set_option maxHeartbeats 2000000 in
theorem wroot_found (s g B x y : Nat) (dl : List Int) (M : Nat → Nat → Option (List Int)) (w : World) (hw : WlkAt w g B s) (hM : MapIs w B M) (hx : x ≤ 1000000) (hy : y ≤ 1000000) (hd : M x y = some dl) :
    Calls Tryz.prog 138 #[.pointer (some ⟨g, 0, none⟩), gk x y] w fun e w' => e = .returned (.agg (an 4 (zat dl))) ∧ Below w.heap.size w w' := by
  unfold gk
  have HR := hid (rootW_new (x := x) (y := y) hw hM)
  have hgl := hw.lt
  have hBl := hM.lt
  clear hw hM
  go_enter Tryz.func138, Tryz.ntmps138
  go_wp2_with fail
  generalize (w.alloc (.cells #[.int .i64 (x : Int), .int .i64 (y : Int)] 135)).alloc (.cells #[.int .i64 0, .int .i64 0, .int .i64 0, .int .i64 0] 176) = W1 at *
  have hsz := HR.out.size
  have HK : Hid (∀ W, Below W1.heap.size W1 W → W.cell? ⟨g, 1, none⟩ = some (.map (some B)) ∧ W.cell? ⟨w.heap.size, 0, none⟩ = some (.int .i64 (x : Int)) ∧ W.cell? ⟨w.heap.size, 1, none⟩ = some (.int .i64 (y : Int)) ∧ W.heap[B]? = W1.heap[B]?) := fun W h =>
    ⟨(h.cell (p := ⟨g, 1, none⟩) (by show g < _; omega)).trans HR.out.c1, (h.cell (p := ⟨w.heap.size, 0, none⟩) (by show w.heap.size < _; omega)).trans (HR.out.key.cell (i := 0) (by omega)), (h.cell (p := ⟨w.heap.size, 1, none⟩) (by show w.heap.size < _; omega)).trans (HR.out.key.cell (i := 1) (by omega)), h.block B (by omega)⟩
  have hLk : ∀ W, W.heap[B]? = W1.heap[B]? → (Instr.lookup 178 (.map (some B)) (.agg #[.int .i64 (x : Int), .int .i64 (y : Int)]) true).run Tryz.prog W = .ok (.tuple #[.agg #[.int .i64 (zat dl 0), .int .i64 (zat dl 1), .int .i64 (zat dl 2), .int .i64 (zat dl 3)], .bool true]) W := fun W h => by
    have := (HR.out.map.block h).lookup (a := x) (b := y) (by omega) (by omega) true
    rw [hd, show gotv M x y = zat dl from by unfold gotv; rw [hd], an4] at this
    exact this
  go_region_held3 (fun w' => w'.cell? ⟨g, 1, none⟩ = some (.map (some B)) ∧ w'.cell? ⟨w.heap.size, 0, none⟩ = some (.int .i64 (x : Int)) ∧ w'.cell? ⟨w.heap.size, 1, none⟩ = some (.int .i64 (y : Int)) ∧ w'.heap[B]? = W1.heap[B]?)
    (first | exact HK.out _ (Below.refl _ _).drew | exact HK.out _ ((Below.refl _ _).drew.alloc (Nat.le_refl _) _)) (fail)
  all_goals (
    have HAd := hid (ArrI.new W1 4 176 (zat dl)).drew
    rw [an4, hsz] at HAd
    have HAr := hid (HR.out.res.alloc (.cells #[.int .i64 (zat dl 0), .int .i64 (zat dl 1), .int .i64 (zat dl 2), .int .i64 (zat dl 3)] 176)).drew
    have HBe : Hid (Below w.heap.size w (W1.alloc (.cells #[.int .i64 (zat dl 0), .int .i64 (zat dl 1), .int .i64 (zat dl 2), .int .i64 (zat dl 3)] 176)).drew) := (HR.out.below.alloc (by omega) _).drew
    clear HK hLk HR hsz
    generalize (W1.alloc (.cells #[.int .i64 (zat dl 0), .int .i64 (zat dl 1), .int .i64 (zat dl 2), .int .i64 (zat dl 3)] 176)).drew = W2 at *
    go_wp2_with (first
        | (refine wpList_load_an rfl 176 _ rfl _ rfl _ _ _ _ _ HAd.out Tryz.underlying176 (by kernel_rfl) ?_)
        | (refine wpList_store_an rfl 176 _ _ rfl _ _ _ _ rfl rfl _ HAr.out (by kernel_rfl) ?_))
    refine bodyPost_ret (results_an rfl _ _ (w.heap.size + 1) 176 4 _ _ (zat dl) rfl (HAr.out.setRow _) Tryz.underlying176 (by kernel_rfl)) rfl ?_
    exact ⟨rfl, below_setRow HBe.out (by omega) _⟩)

end Go.Proofs.YtmmlphdekeflfaaGreatDoor
