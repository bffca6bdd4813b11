/- attestref3, the trees: Once. -/
import Derived.Test.YtionbilheeheaaeGreatDoorRefs
namespace Go.Proofs.YtionbilheeheaaeGreatDoor
open Go.RowKit

theorem wpStill_skipG {P : Program} {ops : Array Oper} {w : World} {Q : Act → Prop} {a : Act} {o : Oper} {rest : List Oper} (hw : Region.wanted o (yielded ops a.tmps) = false)
    (h : ∀ K : Act → Prop, (∀ a, wpStill P ops w Q rest a → K a) → K (a.put o.dst undef)) : wpStill P ops w Q (o :: rest) a := by
  refine wpStill_step (fun K hK => ?_)
  rw [hw]
  exact h K hK
theorem wpStill_wantG {P : Program} {ops : Array Oper} {w : World} {Q : Act → Prop} {a : Act} {o : Oper} {rest : List Oper} (hw : Region.wanted o (yielded ops a.tmps) = true)
    (h : ∀ K : Act → Prop, (∀ a, wpStill P ops w Q rest a → K a) → o.still P a w K) : wpStill P ops w Q (o :: rest) a := by
  refine wpStill_step (fun K hK => ?_)
  rw [hw]
  exact h K hK

attribute [local irreducible] wpStill

set_option maxRecDepth 100000 in
set_option maxHeartbeats 2000000 in
theorem ronce_any (cap : Nat) (av : Option Addr) (ps : List Int) (w : World) (hlen : ps.length ≤ 17592186044400) (hrow : RowB w.heap.size w av ps) :
    Calls Tryz.prog 36 #[.slice av ps.length cap] w fun e w' => ∃ v os, e = .returned v ∧ OnceIs ps os ∧ w'.ownsRow w.heap.size 3 1 v os.length (os.map (Value.int .i64)) ∧ Below w.heap.size w w' := by
  have hmx : Tryz.prog.follows .mixedOrders = true := by kernel_rfl
  obtain ⟨i0, hi, hz0, hz1, hz2⟩ := info_parts Tryz.infoInt
  have HR := hid hrow
  clear hrow
  go_enter Tryz.func36, Tryz.ntmps36
  go_wp2_with fail
  go_loopw [3] (fun v wr => ∃ os : List Int, lenV v = os.length ∧ os.length ≤ ps.length ∧ Hid (Asc os ∧ (∀ x, x ∈ os → x ∈ ps) ∧ ∀ x, x ∈ ps → x ∈ os ∨ Cand os x) ∧ Hid (wr.ownsRow w.heap.size 3 1 v os.length (os.map (Value.int .i64))) ∧ Hid (Below w.heap.size w wr))
    (fun v _ => ps.length - lenV v)
  case atStart => exact ⟨[], rfl, Nat.zero_le _, ⟨List.Pairwise.nil, fun x hx => (by cases hx), fun x _ => .inr (fun y hy => by cases hy)⟩, World.ownsRow_nil _ _ _ _, Below.refl _ _⟩
  case round =>
    obtain ⟨os, hlv, hle, hinv, hown, hbel⟩ := hrel
    obtain ⟨ao, co, rfl, hlo⟩ := lst_of_owns hown.out
    have HLO := hid hlo.row
    obtain ⟨wo, rfl⟩ : ∃ wo, wo = wr := ⟨_, rfl⟩
    clear hlo hlv
    go_wp2_with fail
    go_loopw [4, 5] (fun bv iv wr => ∃ k : Nat, k ≤ ps.length ∧ iv = .int .i64 k ∧ Hid (BestIs ps os k bv) ∧ Hid (∃ nn, wr = wo.drewN nn)) (fun _ iv _ => ps.length - (intOf iv).toNat)
    case atStart => exact ⟨0, Nat.zero_le _, rfl, .inl ⟨rfl, fun j hj => by omega⟩, 0, rfl⟩
    case round =>
      obtain ⟨k, hk, rfl, hbest, hw⟩ := hrel
      have HW2 : Hid (∃ nn, wr.drew = wo.drewN nn) := by
        obtain ⟨nn, e⟩ := hw.out
        exact ⟨nn + 1, by rw [e]; rfl⟩
      have HBW : Hid (Below wo.heap.size wo wr) := by
        obtain ⟨nn, e⟩ := hw.out
        unfold Hid
        rw [e]
        exact below_drewN (Below.refl _ _) nn
      have HBK : Hid (∀ p, wr.cell? p = wo.cell? p) := by
        obtain ⟨nn, e⟩ := hw.out
        intro p
        rw [e]
        rfl
      have HWQ := hw
      clear hw
      by_cases hlt : k < ps.length
      · have hlt2 : (k : Int) < (ps.length : Int) := by omega
        have hkw : IntKind.i64.wrap ((k : Int) + 1) = (k : Int) + 1 := by rw [IntKind.wrap_i64]; omega
        obtain ⟨b1, o1, rfl, hb1, hc1⟩ := HR.out k hlt
        have hc2 : wr.cell? ⟨b1, o1 + k, none⟩ = some (.int .i64 (zat ps k)) := (HBK.out _).trans <| (hbel.out.cell (p := ⟨b1, o1 + k, none⟩) hb1).trans hc1
        have HBL := hid (And.intro hbel.out hown.out)
        clear hc1 hbel hown
        -- is it behind the last?
        have hcases : (os.length = 0 ∧ Cand os (zat ps k)) ∨ (∃ (z bl ol : Nat) (y : Int), os.length = z + 1 ∧ ao = some ⟨bl, ol, none⟩ ∧ wr.cell? ⟨bl, ol + z, none⟩ = some (.int .i64 y) ∧ ((y < zat ps k ∧ Cand os (zat ps k)) ∨ (¬ y < zat ps k ∧ ¬ Cand os (zat ps k)))) := by
          rcases Nat.eq_zero_or_pos os.length with h0 | h0
          · left
            refine ⟨h0, fun y hy => ?_⟩
            obtain rfl := List.length_eq_zero_iff.1 h0
            cases hy
          · right
            obtain ⟨bl, ol, e1, _, e2⟩ := HLO.out (os.length - 1) (by omega)
            refine ⟨os.length - 1, bl, ol, zat os (os.length - 1), by omega, e1, (HBK.out _).trans e2, ?_⟩
            by_cases g : zat os (os.length - 1) < zat ps k
            · exact .inl ⟨g, fun y hy => by have := asc_last hinv.out.1 h0 y hy; omega⟩
            · exact .inr ⟨g, fun hc => g (hc _ (zat_mem (by omega)))⟩
        rcases hcases with ⟨h0, hcand⟩ | ⟨z, bl, ol, y, hz, rfl, hcl, ⟨hlt3, hcand⟩ | ⟨hge, hnc⟩⟩
        · have h0b : ((os.length : Int) == 0) = true := by rw [h0]; rfl
          rcases hbest.out with ⟨rfl, _⟩ | ⟨m, rfl, hmk, _, _⟩
          · have HT := hid (hbest.out.first hcand)
            clear hbest hcand h0
            generalize zat ps k = x at *
            go_wp2_with fail
            refine wp_region_still_lit hmx (by kernel_rfl) ?_
            refine wpStill_wantG (by kernel_rfl) (fun K hK => ?_); go_simp; refine hK _ ?_; clear hK K
            refine wpStill_wantG (by kernel_rfl) (fun K hK => ?_); go_simp; refine hK _ ?_; clear hK K
            refine wpStill_wantG (by kernel_rfl) (fun K hK => ?_); go_simp; refine hK _ ?_; clear hK K
            refine wpStill_wantG (by kernel_rfl) (fun K hK => ?_); go_simp; refine hK _ ?_; clear hK K
            refine wpStill_skipG (by kernel_rfl) (fun K hK => ?_); go_simp; refine hK _ ?_; clear hK K
            refine wpStill_skipG (by kernel_rfl) (fun K hK => ?_); go_simp; refine hK _ ?_; clear hK K
            refine wpStill_skipG (by kernel_rfl) (fun K hK => ?_); go_simp; refine hK _ ?_; clear hK K
            refine wpStill_skipG (by kernel_rfl) (fun K hK => ?_); go_simp; refine hK _ ?_; clear hK K
            refine wpStill_skipG (by kernel_rfl) (fun K hK => ?_); go_simp; refine hK _ ?_; clear hK K
            refine wpStill_skipG (by kernel_rfl) (fun K hK => ?_); go_simp; refine hK _ ?_; clear hK K
            refine wpStill_skipG (by kernel_rfl) (fun K hK => ?_); go_simp; refine hK _ ?_; clear hK K
            refine wpStill_skipG (by kernel_rfl) (fun K hK => ?_); go_simp; refine hK _ ?_; clear hK K
            refine wpStill_skipG (by kernel_rfl) (fun K hK => ?_); go_simp; refine hK _ ?_; clear hK K
            refine wpStill_skipG (by kernel_rfl) (fun K hK => ?_); go_simp; refine hK _ ?_; clear hK K
            refine wpStill_skipG (by kernel_rfl) (fun K hK => ?_); go_simp; refine hK _ ?_; clear hK K
            refine wpStill_wantG (by kernel_rfl) (fun K hK => ?_); go_simp; refine hK _ ?_; clear hK K
            refine wpStill_wantG (by kernel_rfl) (fun K hK => ?_); go_simp; refine hK _ ?_; clear hK K
            refine wpStill_wantG (by kernel_rfl) (fun K hK => ?_); go_simp; refine hK _ ?_; clear hK K
            refine wpStill_wantG (by kernel_rfl) (fun K hK => ?_); go_simp; refine hK _ ?_; clear hK K
            refine wpStill_wantG (by kernel_rfl) (fun K hK => ?_); go_simp; refine hK _ ?_; clear hK K
            refine wpStill_skipG (by kernel_rfl) (fun K hK => ?_); go_simp; refine hK _ ?_; clear hK K
            refine wpStill_skipG (by kernel_rfl) (fun K hK => ?_); go_simp; refine hK _ ?_; clear hK K
            refine wpStill_skipG (by kernel_rfl) (fun K hK => ?_); go_simp; refine hK _ ?_; clear hK K
            refine wpStill_skipG (by kernel_rfl) (fun K hK => ?_); go_simp; refine hK _ ?_; clear hK K
            refine wpStill_skipG (by kernel_rfl) (fun K hK => ?_); go_simp; refine hK _ ?_; clear hK K
            refine wpStill_skipG (by kernel_rfl) (fun K hK => ?_); go_simp; refine hK _ ?_; clear hK K
            refine wpStill_skipG (by kernel_rfl) (fun K hK => ?_); go_simp; refine hK _ ?_; clear hK K
            refine wpStill_skipG (by kernel_rfl) (fun K hK => ?_); go_simp; refine hK _ ?_; clear hK K
            refine wpStill_skipG (by kernel_rfl) (fun K hK => ?_); go_simp; refine hK _ ?_; clear hK K
            refine wpStill_wantG (by kernel_rfl) (fun K hK => ?_); go_simp; refine hK _ ?_; clear hK K
            refine wpStill_wantG (by kernel_rfl) (fun K hK => ?_); go_simp; refine hK _ ?_; clear hK K
            refine wpStill_nil ?_
            go_wp2_with fail
            go_roundw
            case rel => exact ⟨k + 1, by omega, by go_num, HT, HW2⟩
            case measure => simp [intOf]; omega
          · obtain ⟨b2, o2, e2, hb2, hm2⟩ := HR.out m (by omega)
            cases e2
            have hm3 : wr.cell? ⟨b1, o1 + m, none⟩ = some (.int .i64 (zat ps m)) := (HBK.out _).trans <| (HBL.out.1.cell (p := ⟨b1, o1 + m, none⟩) hb2).trans hm2
            have hmlt : (m : Int) < (ps.length : Int) := by omega
            have hmn : ¬ (m : Int) < 0 := by omega
            by_cases hl2 : zat ps k < zat ps m
            · have HT := hid (hbest.out.less hcand hl2)
              clear hbest hcand h0 hm2
              generalize zat ps k = x at *
              generalize zat ps m = xm at *
              go_wp2_with fail
              refine wp_region_still_lit hmx (by kernel_rfl) ?_
              refine wpStill_wantG (by kernel_rfl) (fun K hK => ?_); go_simp; refine hK _ ?_; clear hK K
              refine wpStill_wantG (by kernel_rfl) (fun K hK => ?_); go_simp; refine hK _ ?_; clear hK K
              refine wpStill_wantG (by kernel_rfl) (fun K hK => ?_); go_simp; refine hK _ ?_; clear hK K
              refine wpStill_wantG (by kernel_rfl) (fun K hK => ?_); go_simp; refine hK _ ?_; clear hK K
              refine wpStill_skipG (by kernel_rfl) (fun K hK => ?_); go_simp; refine hK _ ?_; clear hK K
              refine wpStill_skipG (by kernel_rfl) (fun K hK => ?_); go_simp; refine hK _ ?_; clear hK K
              refine wpStill_skipG (by kernel_rfl) (fun K hK => ?_); go_simp; refine hK _ ?_; clear hK K
              refine wpStill_skipG (by kernel_rfl) (fun K hK => ?_); go_simp; refine hK _ ?_; clear hK K
              refine wpStill_skipG (by kernel_rfl) (fun K hK => ?_); go_simp; refine hK _ ?_; clear hK K
              refine wpStill_skipG (by kernel_rfl) (fun K hK => ?_); go_simp; refine hK _ ?_; clear hK K
              refine wpStill_skipG (by kernel_rfl) (fun K hK => ?_); go_simp; refine hK _ ?_; clear hK K
              refine wpStill_skipG (by kernel_rfl) (fun K hK => ?_); go_simp; refine hK _ ?_; clear hK K
              refine wpStill_skipG (by kernel_rfl) (fun K hK => ?_); go_simp; refine hK _ ?_; clear hK K
              refine wpStill_skipG (by kernel_rfl) (fun K hK => ?_); go_simp; refine hK _ ?_; clear hK K
              refine wpStill_skipG (by kernel_rfl) (fun K hK => ?_); go_simp; refine hK _ ?_; clear hK K
              refine wpStill_wantG (by kernel_rfl) (fun K hK => ?_); go_simp; refine hK _ ?_; clear hK K
              refine wpStill_wantG (by kernel_rfl) (fun K hK => ?_); go_simp; refine hK _ ?_; clear hK K
              refine wpStill_wantG (by kernel_rfl) (fun K hK => ?_); go_simp; refine hK _ ?_; clear hK K
              refine wpStill_wantG (by kernel_rfl) (fun K hK => ?_); go_simp; refine hK _ ?_; clear hK K
              refine wpStill_wantG (by kernel_rfl) (fun K hK => ?_); go_simp; refine hK _ ?_; clear hK K
              refine wpStill_wantG (by kernel_rfl) (fun K hK => ?_); go_simp; refine hK _ ?_; clear hK K
              refine wpStill_wantG (by kernel_rfl) (fun K hK => ?_); go_simp; refine hK _ ?_; clear hK K
              refine wpStill_wantG (by kernel_rfl) (fun K hK => ?_); go_simp; refine hK _ ?_; clear hK K
              refine wpStill_wantG (by kernel_rfl) (fun K hK => ?_); go_simp; refine hK _ ?_; clear hK K
              refine wpStill_wantG (by kernel_rfl) (fun K hK => ?_); go_simp; refine hK _ ?_; clear hK K
              refine wpStill_wantG (by kernel_rfl) (fun K hK => ?_); go_simp; refine hK _ ?_; clear hK K
              refine wpStill_wantG (by kernel_rfl) (fun K hK => ?_); go_simp; refine hK _ ?_; clear hK K
              refine wpStill_wantG (by kernel_rfl) (fun K hK => ?_); go_simp; refine hK _ ?_; clear hK K
              refine wpStill_wantG (by kernel_rfl) (fun K hK => ?_); go_simp; refine hK _ ?_; clear hK K
              refine wpStill_wantG (by kernel_rfl) (fun K hK => ?_); go_simp; refine hK _ ?_; clear hK K
              refine wpStill_wantG (by kernel_rfl) (fun K hK => ?_); go_simp; refine hK _ ?_; clear hK K
              refine wpStill_nil ?_
              go_wp2_with fail
              go_roundw
              case rel => exact ⟨k + 1, by omega, by go_num, HT, HW2⟩
              case measure => simp [intOf]; omega
            · have HT := hid (hbest.out.more hl2)
              clear hbest hcand h0 hm2
              generalize zat ps k = x at *
              generalize zat ps m = xm at *
              go_wp2_with fail
              refine wp_region_still_lit hmx (by kernel_rfl) ?_
              refine wpStill_wantG (by kernel_rfl) (fun K hK => ?_); go_simp; refine hK _ ?_; clear hK K
              refine wpStill_wantG (by kernel_rfl) (fun K hK => ?_); go_simp; refine hK _ ?_; clear hK K
              refine wpStill_wantG (by kernel_rfl) (fun K hK => ?_); go_simp; refine hK _ ?_; clear hK K
              refine wpStill_wantG (by kernel_rfl) (fun K hK => ?_); go_simp; refine hK _ ?_; clear hK K
              refine wpStill_skipG (by kernel_rfl) (fun K hK => ?_); go_simp; refine hK _ ?_; clear hK K
              refine wpStill_skipG (by kernel_rfl) (fun K hK => ?_); go_simp; refine hK _ ?_; clear hK K
              refine wpStill_skipG (by kernel_rfl) (fun K hK => ?_); go_simp; refine hK _ ?_; clear hK K
              refine wpStill_skipG (by kernel_rfl) (fun K hK => ?_); go_simp; refine hK _ ?_; clear hK K
              refine wpStill_skipG (by kernel_rfl) (fun K hK => ?_); go_simp; refine hK _ ?_; clear hK K
              refine wpStill_skipG (by kernel_rfl) (fun K hK => ?_); go_simp; refine hK _ ?_; clear hK K
              refine wpStill_skipG (by kernel_rfl) (fun K hK => ?_); go_simp; refine hK _ ?_; clear hK K
              refine wpStill_skipG (by kernel_rfl) (fun K hK => ?_); go_simp; refine hK _ ?_; clear hK K
              refine wpStill_skipG (by kernel_rfl) (fun K hK => ?_); go_simp; refine hK _ ?_; clear hK K
              refine wpStill_skipG (by kernel_rfl) (fun K hK => ?_); go_simp; refine hK _ ?_; clear hK K
              refine wpStill_skipG (by kernel_rfl) (fun K hK => ?_); go_simp; refine hK _ ?_; clear hK K
              refine wpStill_wantG (by kernel_rfl) (fun K hK => ?_); go_simp; refine hK _ ?_; clear hK K
              refine wpStill_wantG (by kernel_rfl) (fun K hK => ?_); go_simp; refine hK _ ?_; clear hK K
              refine wpStill_wantG (by kernel_rfl) (fun K hK => ?_); go_simp; refine hK _ ?_; clear hK K
              refine wpStill_wantG (by kernel_rfl) (fun K hK => ?_); go_simp; refine hK _ ?_; clear hK K
              refine wpStill_wantG (by kernel_rfl) (fun K hK => ?_); go_simp; refine hK _ ?_; clear hK K
              refine wpStill_wantG (by kernel_rfl) (fun K hK => ?_); go_simp; refine hK _ ?_; clear hK K
              refine wpStill_wantG (by kernel_rfl) (fun K hK => ?_); go_simp; refine hK _ ?_; clear hK K
              refine wpStill_wantG (by kernel_rfl) (fun K hK => ?_); go_simp; refine hK _ ?_; clear hK K
              refine wpStill_wantG (by kernel_rfl) (fun K hK => ?_); go_simp; refine hK _ ?_; clear hK K
              refine wpStill_wantG (by kernel_rfl) (fun K hK => ?_); go_simp; refine hK _ ?_; clear hK K
              refine wpStill_wantG (by kernel_rfl) (fun K hK => ?_); go_simp; refine hK _ ?_; clear hK K
              refine wpStill_wantG (by kernel_rfl) (fun K hK => ?_); go_simp; refine hK _ ?_; clear hK K
              refine wpStill_wantG (by kernel_rfl) (fun K hK => ?_); go_simp; refine hK _ ?_; clear hK K
              refine wpStill_wantG (by kernel_rfl) (fun K hK => ?_); go_simp; refine hK _ ?_; clear hK K
              refine wpStill_wantG (by kernel_rfl) (fun K hK => ?_); go_simp; refine hK _ ?_; clear hK K
              refine wpStill_wantG (by kernel_rfl) (fun K hK => ?_); go_simp; refine hK _ ?_; clear hK K
              refine wpStill_nil ?_
              go_wp2_with fail
              go_roundw
              case rel => exact ⟨k + 1, by omega, by go_num, HT, HW2⟩
              case measure => simp [intOf]; omega
        · have h0b : ((os.length : Int) == 0) = false := by rw [beq_eq_false_iff_ne]; omega
          have e1 : (os.length : Int) - 1 = (z : Int) := by omega
          have zlt : (z : Int) < (os.length : Int) := by omega
          have zw : IntKind.i64.wrap (z : Int) = (z : Int) := by rw [IntKind.wrap_i64]; omega
          rcases hbest.out with ⟨rfl, _⟩ | ⟨m, rfl, hmk, _, _⟩
          · have HT := hid (hbest.out.first hcand)
            clear hbest hcand hz
            generalize zat ps k = x at *
            go_wp2_with fail
            refine wp_region_still_lit hmx (by kernel_rfl) ?_
            refine wpStill_wantG (by kernel_rfl) (fun K hK => ?_); go_simp; refine hK _ ?_; clear hK K
            refine wpStill_wantG (by kernel_rfl) (fun K hK => ?_); go_simp; refine hK _ ?_; clear hK K
            refine wpStill_wantG (by kernel_rfl) (fun K hK => ?_); go_simp; refine hK _ ?_; clear hK K
            refine wpStill_wantG (by kernel_rfl) (fun K hK => ?_); go_simp; refine hK _ ?_; clear hK K
            refine wpStill_wantG (by kernel_rfl) (fun K hK => ?_); go_simp; refine hK _ ?_; clear hK K
            refine wpStill_wantG (by kernel_rfl) (fun K hK => ?_); go_simp; refine hK _ ?_; clear hK K
            refine wpStill_wantG (by kernel_rfl) (fun K hK => ?_); go_simp; refine hK _ ?_; clear hK K
            refine wpStill_wantG (by kernel_rfl) (fun K hK => ?_); go_simp; refine hK _ ?_; clear hK K
            refine wpStill_wantG (by kernel_rfl) (fun K hK => ?_); go_simp; refine hK _ ?_; clear hK K
            refine wpStill_wantG (by kernel_rfl) (fun K hK => ?_); go_simp; refine hK _ ?_; clear hK K
            refine wpStill_wantG (by kernel_rfl) (fun K hK => ?_); go_simp; refine hK _ ?_; clear hK K
            refine wpStill_wantG (by kernel_rfl) (fun K hK => ?_); go_simp; refine hK _ ?_; clear hK K
            refine wpStill_wantG (by kernel_rfl) (fun K hK => ?_); go_simp; refine hK _ ?_; clear hK K
            refine wpStill_wantG (by kernel_rfl) (fun K hK => ?_); go_simp; refine hK _ ?_; clear hK K
            refine wpStill_wantG (by kernel_rfl) (fun K hK => ?_); go_simp; refine hK _ ?_; clear hK K
            refine wpStill_wantG (by kernel_rfl) (fun K hK => ?_); go_simp; refine hK _ ?_; clear hK K
            refine wpStill_wantG (by kernel_rfl) (fun K hK => ?_); go_simp; refine hK _ ?_; clear hK K
            refine wpStill_wantG (by kernel_rfl) (fun K hK => ?_); go_simp; refine hK _ ?_; clear hK K
            refine wpStill_wantG (by kernel_rfl) (fun K hK => ?_); go_simp; refine hK _ ?_; clear hK K
            refine wpStill_wantG (by kernel_rfl) (fun K hK => ?_); go_simp; refine hK _ ?_; clear hK K
            refine wpStill_skipG (by kernel_rfl) (fun K hK => ?_); go_simp; refine hK _ ?_; clear hK K
            refine wpStill_skipG (by kernel_rfl) (fun K hK => ?_); go_simp; refine hK _ ?_; clear hK K
            refine wpStill_skipG (by kernel_rfl) (fun K hK => ?_); go_simp; refine hK _ ?_; clear hK K
            refine wpStill_skipG (by kernel_rfl) (fun K hK => ?_); go_simp; refine hK _ ?_; clear hK K
            refine wpStill_skipG (by kernel_rfl) (fun K hK => ?_); go_simp; refine hK _ ?_; clear hK K
            refine wpStill_skipG (by kernel_rfl) (fun K hK => ?_); go_simp; refine hK _ ?_; clear hK K
            refine wpStill_skipG (by kernel_rfl) (fun K hK => ?_); go_simp; refine hK _ ?_; clear hK K
            refine wpStill_skipG (by kernel_rfl) (fun K hK => ?_); go_simp; refine hK _ ?_; clear hK K
            refine wpStill_skipG (by kernel_rfl) (fun K hK => ?_); go_simp; refine hK _ ?_; clear hK K
            refine wpStill_wantG (by kernel_rfl) (fun K hK => ?_); go_simp; refine hK _ ?_; clear hK K
            refine wpStill_wantG (by kernel_rfl) (fun K hK => ?_); go_simp; refine hK _ ?_; clear hK K
            refine wpStill_nil ?_
            go_wp2_with fail
            go_roundw
            case rel => exact ⟨k + 1, by omega, by go_num, HT, HW2⟩
            case measure => simp [intOf]; omega
          · obtain ⟨b2, o2, e2, hb2, hm2⟩ := HR.out m (by omega)
            cases e2
            have hm3 : wr.cell? ⟨b1, o1 + m, none⟩ = some (.int .i64 (zat ps m)) := (HBK.out _).trans <| (HBL.out.1.cell (p := ⟨b1, o1 + m, none⟩) hb2).trans hm2
            have hmlt : (m : Int) < (ps.length : Int) := by omega
            have hmn : ¬ (m : Int) < 0 := by omega
            by_cases hl2 : zat ps k < zat ps m
            · have HT := hid (hbest.out.less hcand hl2)
              clear hbest hcand hz hm2
              generalize zat ps k = x at *
              generalize zat ps m = xm at *
              go_wp2_with fail
              refine wp_region_still_lit hmx (by kernel_rfl) ?_
              refine wpStill_wantG (by kernel_rfl) (fun K hK => ?_); go_simp; refine hK _ ?_; clear hK K
              refine wpStill_wantG (by kernel_rfl) (fun K hK => ?_); go_simp; refine hK _ ?_; clear hK K
              refine wpStill_wantG (by kernel_rfl) (fun K hK => ?_); go_simp; refine hK _ ?_; clear hK K
              refine wpStill_wantG (by kernel_rfl) (fun K hK => ?_); go_simp; refine hK _ ?_; clear hK K
              refine wpStill_wantG (by kernel_rfl) (fun K hK => ?_); go_simp; refine hK _ ?_; clear hK K
              refine wpStill_wantG (by kernel_rfl) (fun K hK => ?_); go_simp; refine hK _ ?_; clear hK K
              refine wpStill_wantG (by kernel_rfl) (fun K hK => ?_); go_simp; refine hK _ ?_; clear hK K
              refine wpStill_wantG (by kernel_rfl) (fun K hK => ?_); go_simp; refine hK _ ?_; clear hK K
              refine wpStill_wantG (by kernel_rfl) (fun K hK => ?_); go_simp; refine hK _ ?_; clear hK K
              refine wpStill_wantG (by kernel_rfl) (fun K hK => ?_); go_simp; refine hK _ ?_; clear hK K
              refine wpStill_wantG (by kernel_rfl) (fun K hK => ?_); go_simp; refine hK _ ?_; clear hK K
              refine wpStill_wantG (by kernel_rfl) (fun K hK => ?_); go_simp; refine hK _ ?_; clear hK K
              refine wpStill_wantG (by kernel_rfl) (fun K hK => ?_); go_simp; refine hK _ ?_; clear hK K
              refine wpStill_wantG (by kernel_rfl) (fun K hK => ?_); go_simp; refine hK _ ?_; clear hK K
              refine wpStill_wantG (by kernel_rfl) (fun K hK => ?_); go_simp; refine hK _ ?_; clear hK K
              refine wpStill_wantG (by kernel_rfl) (fun K hK => ?_); go_simp; refine hK _ ?_; clear hK K
              refine wpStill_wantG (by kernel_rfl) (fun K hK => ?_); go_simp; refine hK _ ?_; clear hK K
              refine wpStill_wantG (by kernel_rfl) (fun K hK => ?_); go_simp; refine hK _ ?_; clear hK K
              refine wpStill_wantG (by kernel_rfl) (fun K hK => ?_); go_simp; refine hK _ ?_; clear hK K
              refine wpStill_wantG (by kernel_rfl) (fun K hK => ?_); go_simp; refine hK _ ?_; clear hK K
              refine wpStill_wantG (by kernel_rfl) (fun K hK => ?_); go_simp; refine hK _ ?_; clear hK K
              refine wpStill_wantG (by kernel_rfl) (fun K hK => ?_); go_simp; refine hK _ ?_; clear hK K
              refine wpStill_wantG (by kernel_rfl) (fun K hK => ?_); go_simp; refine hK _ ?_; clear hK K
              refine wpStill_wantG (by kernel_rfl) (fun K hK => ?_); go_simp; refine hK _ ?_; clear hK K
              refine wpStill_wantG (by kernel_rfl) (fun K hK => ?_); go_simp; refine hK _ ?_; clear hK K
              refine wpStill_wantG (by kernel_rfl) (fun K hK => ?_); go_simp; refine hK _ ?_; clear hK K
              refine wpStill_wantG (by kernel_rfl) (fun K hK => ?_); go_simp; refine hK _ ?_; clear hK K
              refine wpStill_wantG (by kernel_rfl) (fun K hK => ?_); go_simp; refine hK _ ?_; clear hK K
              refine wpStill_wantG (by kernel_rfl) (fun K hK => ?_); go_simp; refine hK _ ?_; clear hK K
              refine wpStill_wantG (by kernel_rfl) (fun K hK => ?_); go_simp; refine hK _ ?_; clear hK K
              refine wpStill_wantG (by kernel_rfl) (fun K hK => ?_); go_simp; refine hK _ ?_; clear hK K
              refine wpStill_nil ?_
              go_wp2_with fail
              go_roundw
              case rel => exact ⟨k + 1, by omega, by go_num, HT, HW2⟩
              case measure => simp [intOf]; omega
            · have HT := hid (hbest.out.more hl2)
              clear hbest hcand hz hm2
              generalize zat ps k = x at *
              generalize zat ps m = xm at *
              go_wp2_with fail
              refine wp_region_still_lit hmx (by kernel_rfl) ?_
              refine wpStill_wantG (by kernel_rfl) (fun K hK => ?_); go_simp; refine hK _ ?_; clear hK K
              refine wpStill_wantG (by kernel_rfl) (fun K hK => ?_); go_simp; refine hK _ ?_; clear hK K
              refine wpStill_wantG (by kernel_rfl) (fun K hK => ?_); go_simp; refine hK _ ?_; clear hK K
              refine wpStill_wantG (by kernel_rfl) (fun K hK => ?_); go_simp; refine hK _ ?_; clear hK K
              refine wpStill_wantG (by kernel_rfl) (fun K hK => ?_); go_simp; refine hK _ ?_; clear hK K
              refine wpStill_wantG (by kernel_rfl) (fun K hK => ?_); go_simp; refine hK _ ?_; clear hK K
              refine wpStill_wantG (by kernel_rfl) (fun K hK => ?_); go_simp; refine hK _ ?_; clear hK K
              refine wpStill_wantG (by kernel_rfl) (fun K hK => ?_); go_simp; refine hK _ ?_; clear hK K
              refine wpStill_wantG (by kernel_rfl) (fun K hK => ?_); go_simp; refine hK _ ?_; clear hK K
              refine wpStill_wantG (by kernel_rfl) (fun K hK => ?_); go_simp; refine hK _ ?_; clear hK K
              refine wpStill_wantG (by kernel_rfl) (fun K hK => ?_); go_simp; refine hK _ ?_; clear hK K
              refine wpStill_wantG (by kernel_rfl) (fun K hK => ?_); go_simp; refine hK _ ?_; clear hK K
              refine wpStill_wantG (by kernel_rfl) (fun K hK => ?_); go_simp; refine hK _ ?_; clear hK K
              refine wpStill_wantG (by kernel_rfl) (fun K hK => ?_); go_simp; refine hK _ ?_; clear hK K
              refine wpStill_wantG (by kernel_rfl) (fun K hK => ?_); go_simp; refine hK _ ?_; clear hK K
              refine wpStill_wantG (by kernel_rfl) (fun K hK => ?_); go_simp; refine hK _ ?_; clear hK K
              refine wpStill_wantG (by kernel_rfl) (fun K hK => ?_); go_simp; refine hK _ ?_; clear hK K
              refine wpStill_wantG (by kernel_rfl) (fun K hK => ?_); go_simp; refine hK _ ?_; clear hK K
              refine wpStill_wantG (by kernel_rfl) (fun K hK => ?_); go_simp; refine hK _ ?_; clear hK K
              refine wpStill_wantG (by kernel_rfl) (fun K hK => ?_); go_simp; refine hK _ ?_; clear hK K
              refine wpStill_wantG (by kernel_rfl) (fun K hK => ?_); go_simp; refine hK _ ?_; clear hK K
              refine wpStill_wantG (by kernel_rfl) (fun K hK => ?_); go_simp; refine hK _ ?_; clear hK K
              refine wpStill_wantG (by kernel_rfl) (fun K hK => ?_); go_simp; refine hK _ ?_; clear hK K
              refine wpStill_wantG (by kernel_rfl) (fun K hK => ?_); go_simp; refine hK _ ?_; clear hK K
              refine wpStill_wantG (by kernel_rfl) (fun K hK => ?_); go_simp; refine hK _ ?_; clear hK K
              refine wpStill_wantG (by kernel_rfl) (fun K hK => ?_); go_simp; refine hK _ ?_; clear hK K
              refine wpStill_wantG (by kernel_rfl) (fun K hK => ?_); go_simp; refine hK _ ?_; clear hK K
              refine wpStill_wantG (by kernel_rfl) (fun K hK => ?_); go_simp; refine hK _ ?_; clear hK K
              refine wpStill_wantG (by kernel_rfl) (fun K hK => ?_); go_simp; refine hK _ ?_; clear hK K
              refine wpStill_wantG (by kernel_rfl) (fun K hK => ?_); go_simp; refine hK _ ?_; clear hK K
              refine wpStill_wantG (by kernel_rfl) (fun K hK => ?_); go_simp; refine hK _ ?_; clear hK K
              refine wpStill_nil ?_
              go_wp2_with fail
              go_roundw
              case rel => exact ⟨k + 1, by omega, by go_num, HT, HW2⟩
              case measure => simp [intOf]; omega
        · have h0b : ((os.length : Int) == 0) = false := by rw [beq_eq_false_iff_ne]; omega
          have e1 : (os.length : Int) - 1 = (z : Int) := by omega
          have zlt : (z : Int) < (os.length : Int) := by omega
          have zw : IntKind.i64.wrap (z : Int) = (z : Int) := by rw [IntKind.wrap_i64]; omega
          have HT := hid (hbest.out.skip hnc)
          have hgb : decide (y < zat ps k) = false := decide_eq_false hge
          clear hbest hnc hz
          generalize zat ps k = x at *
          go_wp2_with fail
          refine wp_region_still_lit hmx (by kernel_rfl) ?_
          refine wpStill_wantG (by kernel_rfl) (fun K hK => ?_); go_simp; refine hK _ ?_; clear hK K
          refine wpStill_wantG (by kernel_rfl) (fun K hK => ?_); go_simp; refine hK _ ?_; clear hK K
          refine wpStill_wantG (by kernel_rfl) (fun K hK => ?_); go_simp; refine hK _ ?_; clear hK K
          refine wpStill_wantG (by kernel_rfl) (fun K hK => ?_); go_simp; refine hK _ ?_; clear hK K
          refine wpStill_wantG (by kernel_rfl) (fun K hK => ?_); go_simp; refine hK _ ?_; clear hK K
          refine wpStill_wantG (by kernel_rfl) (fun K hK => ?_); go_simp; refine hK _ ?_; clear hK K
          refine wpStill_wantG (by kernel_rfl) (fun K hK => ?_); go_simp; refine hK _ ?_; clear hK K
          refine wpStill_wantG (by kernel_rfl) (fun K hK => ?_); go_simp; refine hK _ ?_; clear hK K
          refine wpStill_wantG (by kernel_rfl) (fun K hK => ?_); go_simp; refine hK _ ?_; clear hK K
          refine wpStill_wantG (by kernel_rfl) (fun K hK => ?_); go_simp; refine hK _ ?_; clear hK K
          refine wpStill_wantG (by kernel_rfl) (fun K hK => ?_); go_simp; refine hK _ ?_; clear hK K
          refine wpStill_wantG (by kernel_rfl) (fun K hK => ?_); go_simp; refine hK _ ?_; clear hK K
          refine wpStill_wantG (by kernel_rfl) (fun K hK => ?_); go_simp; refine hK _ ?_; clear hK K
          refine wpStill_wantG (by kernel_rfl) (fun K hK => ?_); go_simp; refine hK _ ?_; clear hK K
          refine wpStill_wantG (by kernel_rfl) (fun K hK => ?_); go_simp; refine hK _ ?_; clear hK K
          refine wpStill_wantG (by kernel_rfl) (fun K hK => ?_); go_simp; refine hK _ ?_; clear hK K
          refine wpStill_wantG (by kernel_rfl) (fun K hK => ?_); go_simp; refine hK _ ?_; clear hK K
          refine wpStill_skipG (by kernel_rfl) (fun K hK => ?_); go_simp; refine hK _ ?_; clear hK K
          refine wpStill_skipG (by kernel_rfl) (fun K hK => ?_); go_simp; refine hK _ ?_; clear hK K
          refine wpStill_skipG (by kernel_rfl) (fun K hK => ?_); go_simp; refine hK _ ?_; clear hK K
          refine wpStill_skipG (by kernel_rfl) (fun K hK => ?_); go_simp; refine hK _ ?_; clear hK K
          refine wpStill_skipG (by kernel_rfl) (fun K hK => ?_); go_simp; refine hK _ ?_; clear hK K
          refine wpStill_skipG (by kernel_rfl) (fun K hK => ?_); go_simp; refine hK _ ?_; clear hK K
          refine wpStill_skipG (by kernel_rfl) (fun K hK => ?_); go_simp; refine hK _ ?_; clear hK K
          refine wpStill_skipG (by kernel_rfl) (fun K hK => ?_); go_simp; refine hK _ ?_; clear hK K
          refine wpStill_skipG (by kernel_rfl) (fun K hK => ?_); go_simp; refine hK _ ?_; clear hK K
          refine wpStill_skipG (by kernel_rfl) (fun K hK => ?_); go_simp; refine hK _ ?_; clear hK K
          refine wpStill_skipG (by kernel_rfl) (fun K hK => ?_); go_simp; refine hK _ ?_; clear hK K
          refine wpStill_skipG (by kernel_rfl) (fun K hK => ?_); go_simp; refine hK _ ?_; clear hK K
          refine wpStill_skipG (by kernel_rfl) (fun K hK => ?_); go_simp; refine hK _ ?_; clear hK K
          refine wpStill_wantG (by kernel_rfl) (fun K hK => ?_); go_simp; refine hK _ ?_; clear hK K
          refine wpStill_nil ?_
          go_wp2_with fail
          go_roundw
          case rel => exact ⟨k + 1, by omega, by go_num, HT, HW2⟩
          case measure => simp [intOf]; omega
      · obtain rfl : k = ps.length := by omega
        have HOW : Hid (wr.ownsRow w.heap.size 3 1 (.slice ao os.length co) os.length (os.map (Value.int .i64))) := by
          obtain ⟨nn, e⟩ := HWQ.out
          unfold Hid
          rw [e]
          exact hown.out
        have HBB : Hid (Below w.heap.size w wr) := hbel.out.trans (HBW.out.mono hbel.out.size)
        clear HWQ
        rcases hbest.out with ⟨rfl, hno⟩ | ⟨m, rfl, hmk, hcm, hmin⟩
        · have HE : Hid (OnceIs ps os ∧ wr.ownsRow w.heap.size 3 1 (.slice ao os.length co) os.length (os.map (Value.int .i64)) ∧ Below w.heap.size w wr) := by
            refine ⟨⟨hinv.out.1, fun x => ⟨hinv.out.2.1 x, fun hx => ?_⟩⟩, HOW.out, HBB.out⟩
            rcases hinv.out.2.2 x hx with g | g
            · exact g
            · obtain ⟨j, hj, rfl⟩ := mem_zat hx
              exact absurd g (hno j hj)
          clear hno hbest hown hbel hinv
          go_wp2_with fail
          go_ret
          exact ⟨_, os, rfl, HE.out.1, HE.out.2.1, HE.out.2.2⟩
        · obtain ⟨b2, o2, rfl, hb2, hm2⟩ := HR.out m hmk
          have hm3 : wr.cell? ⟨b2, o2 + m, none⟩ = some (.int .i64 (zat ps m)) := (HBK.out _).trans <| (hbel.out.cell (p := ⟨b2, o2 + m, none⟩) hb2).trans hm2
          have hmlt : (m : Int) < (ps.length : Int) := by omega
          have hmn : ¬ (m : Int) < 0 := by omega
          have HI2 : Hid (Asc (os ++ [zat ps m]) ∧ (∀ x, x ∈ os ++ [zat ps m] → x ∈ ps) ∧ ∀ x, x ∈ ps → x ∈ os ++ [zat ps m] ∨ Cand (os ++ [zat ps m]) x) := by
            refine ⟨asc_snoc hinv.out.1 hcm, fun x hx => ?_, fun x hx => ?_⟩
            · rcases List.mem_append.1 hx with g | g
              · exact hinv.out.2.1 x g
              · rw [List.mem_singleton.1 g]; exact zat_mem hmk
            · rcases hinv.out.2.2 x hx with g | g
              · exact .inl (List.mem_append_left _ g)
              · obtain ⟨j, hj, rfl⟩ := mem_zat hx
                have h1 := hmin j hj g
                by_cases e : zat ps j = zat ps m
                · exact .inl (List.mem_append_right _ (by rw [e]; exact List.mem_singleton_self _))
                · refine .inr (fun y hy => ?_)
                  rcases List.mem_append.1 hy with k1 | k1
                  · exact g y k1
                  · rw [List.mem_singleton.1 k1]; omega
          have hle2 : (os ++ [zat ps m]).length ≤ ps.length := asc_le HI2.out.1 HI2.out.2.1
          have hown2 : wr.ownsRow w.heap.size 3 1 (.slice ao os.length co) os.length (os.map (Value.int .i64)) := HOW.out
          have HB2 := HBB
          clear hbest hcm hmin hinv hown hbel hm2
          obtain ⟨w5, rfl⟩ : ∃ w5, w5 = wr := ⟨_, rfl⟩
          generalize zat ps m = x at *
          go_wp2_with (at_builtin; refine wpList_append_own _ rfl _ _ 23 rfl w.heap.size 3 i0 (.int .i64 0) 1 8 Tryz.underlying23 hi hz0 hz1 hz2 rfl (by decide) _ _ _ rfl (hown2.alloc _) ⟨w5.heap.size, 0, none⟩ 1 1 [.int .i64 x] rfl rfl ?c1 ?c2 ?c3 ?c4 ?c5 ?_)
          case c2 => first | rfl | (intro u hu; simp at hu; subst hu; rfl)
          case c3 => unfold maxLen; omega
          case c4 => omega
          case c5 => have := HB2.out.size; simp; omega
          intro v' w6 hown6 hgrow _
          have HO6 := hid (owns_succ hown6)
          have hs5 := HB2.out.size
          have HB6 : Hid (Below w.heap.size w w6) := (HB2.out.alloc hs5 _).grown hgrow (by simp; omega) (fun k hk => (hown2.lt k hk).1)
          obtain ⟨a6, c6, hv6⟩ := owns_len HO6.out
          subst hv6
          clear hown6 hgrow hown2 HB2
          go_wp2_with fail
          go_roundw
          case rel => exact ⟨os ++ [x], rfl, hle2, HI2, HO6, HB6⟩
          case measure => simp [lenV] at hle2 ⊢; omega

end Go.Proofs.YtionbilheeheaaeGreatDoor
