/- Package domain: Coefficients, in a block of numbers. -/
import Derived.Test.YtfppkjpgihnibaaGreatDoorDoms
import Derived.Test.YtfppkjpgihnibaaGreatDoorCods
import Derived.Test.YtfppkjpgihnibaaGreatDoorChnA
namespace Go.Proofs.YtfppkjpgihnibaaGreatDoor
open Go.RowKit


set_option maxRecDepth 1000000 in
set_option maxHeartbeats 1600000 in
theorem coef_num (p b d k n cap : Nat) (r s : Int) (a : Option Addr) (zs : List Int) (w : World) (hpr : Num.Prime p) (h3 : 3 ≤ p) (hm : p ≤ 2147483647) (hp : w.cell? ⟨b, 0, none⟩ = some (.int .i64 p)) (hd : DomAt w d b n r s)
    (hk : k ≤ 16) (hn : n = 2 ^ k) (hr0 : 0 ≤ r) (hr1 : r < p) (hord : Dom.Ord p r n) (hs0 : 0 ≤ s) (hs1 : s < p) (hlen : zs.length = n) (hfit : Fits zs) (hl : Lst w.heap.size w a cap zs) :
    Calls Tryz.prog 88 #[.pointer (some ⟨d, 0, none⟩), .slice a n cap] w fun e w' =>
      ∃ (g c : Nat), e = .returned (.tuple #[.slice (some ⟨g, 0, none⟩) (Pol.trim p (ls (coefs p zs n (invn p r) (invn p n) (invn p s)) n)).length c, .nilIface]) ∧
        NumL w' (some ⟨g, 0, none⟩) c (Pol.trim p (ls (coefs p zs n (invn p r) (invn p n) (invn p s)) n)) ∧ Below w.heap.size w w' := by
  have hbl : b < w.heap.size := by
    rcases Nat.lt_or_ge b w.heap.size with g | g
    · exact g
    · simp [World.cell?, Array.getElem?_eq_none g] at hp
  have hdl := hd.lt
  have hn0 : 0 < n := hn ▸ Nat.pow_pos (by decide)
  have hn1 : n ≤ 65536 := hn ▸ Nat.le_trans (Nat.pow_le_pow_right (by decide) hk) (by decide)
  have HCL := hid (clone_any a cap zs w (by omega) (by omega) hl)
  have HSP := hid (hn ▸ spread_all p b hpr h3 hm k hk : SpreadAt p b n)
  have HO := hid hord
  have HD := hid hd
  have HF := hid hfit
  have hb : ((n : Int) != (n : Int)) = false := by simp
  rw [hlen] at HCL
  have HLEN := hid hlen
  obtain ⟨c0, c1, c2, c3⟩ := hd
  have hmk := fun n h1 h2 w => run_make_row' (P := Tryz.prog) 22 3 (.int .i64 0) 8 Tryz.underlying22 Tryz.infoInt rfl .i64 .i64 n h1 h2 w
  have hmk2 := hmk n (by omega) (by omega)
  clear hmk hfit hord hn hl hlen
  have hmx : Tryz.prog.follows .mixedOrders = true := by kernel_rfl
  go_enter Tryz.func88, Tryz.ntmps88
  go_wp2_with fail
  refine HCL.out.mono ?_
  rintro e w1 ⟨g, N, F, rfl, hg, hri, hN, hFv, hb1⟩
  have HRI := hid hri
  have HB1 := hid hb1
  have HFV := hid hFv
  have hgl := hri.lt
  have hs1x := hb1.size
  have x0 := (hb1.cell (p := ⟨d, 0, none⟩) hdl).trans c0
  have x1 := (hb1.cell (p := ⟨d, 1, none⟩) hdl).trans c1
  have x2 := (hb1.cell (p := ⟨d, 2, none⟩) hdl).trans c2
  have x3 := (hb1.cell (p := ⟨d, 3, none⟩) hdl).trans c3
  have hpc := (hb1.cell (p := ⟨b, 0, none⟩) hbl).trans hp
  clear hri hb1 hFv
  go_wp2_with fail
  have hC0 : w1.drew.cell? ⟨d, 0, none⟩ = some (.pointer (some ⟨b, 0, none⟩)) ∧ w1.drew.cell? ⟨d, 1, none⟩ = some (.int .i64 n) ∧ w1.drew.cell? ⟨d, 2, none⟩ = some (.int .i64 r) := ⟨x0, x1, x2⟩
  have hBW : Below w1.heap.size w1 (w1.alloc (.cells (madeCells #[.int .i64 0] n) 3)).drew := ((Below.refl _ _).alloc (Nat.le_refl _) _).drew
  have hd1 : d < w1.heap.size := by omega
  have hC1 : (w1.alloc (.cells (madeCells #[.int .i64 0] n) 3)).drew.cell? ⟨d, 0, none⟩ = some (.pointer (some ⟨b, 0, none⟩)) ∧ (w1.alloc (.cells (madeCells #[.int .i64 0] n) 3)).drew.cell? ⟨d, 1, none⟩ = some (.int .i64 n) ∧ (w1.alloc (.cells (madeCells #[.int .i64 0] n) 3)).drew.cell? ⟨d, 2, none⟩ = some (.int .i64 r) :=
    ⟨(hBW.cell (p := ⟨d, 0, none⟩) hd1).trans x0, (hBW.cell (p := ⟨d, 1, none⟩) hd1).trans x1, (hBW.cell (p := ⟨d, 2, none⟩) hd1).trans x2⟩
  have hpW : (w1.alloc (.cells (madeCells #[.int .i64 0] n) 3)).drew.cell? ⟨b, 0, none⟩ = some (.int .i64 p) := (hBW.cell (p := ⟨b, 0, none⟩) (show b < w1.heap.size by omega)).trans hpc
  have hpD : w1.drew.cell? ⟨b, 0, none⟩ = some (.int .i64 p) := hpc
  have hsW : (w1.alloc (.cells (madeCells #[.int .i64 0] n) 3)).drew.heap.size = w1.heap.size + 1 := by
    show (w1.alloc (.cells (madeCells #[.int .i64 0] n) 3)).heap.size = _
    simp
  have HBW := hid hBW
  have HIX : ∀ (x : Int), -9223372036854775808 ≤ x → x ≤ 9223372036854775807 → Hid (∀ w1 : World, w1.cell? ⟨b, 0, none⟩ = some (.int .i64 p) → Calls Tryz.prog 159 #[.pointer (some ⟨b, 0, none⟩), .int .i64 x] w1 fun e w' => e = .returned (.int .i64 (invn p x)) ∧ w' = w1) :=
    fun x h1 h2 w1 hc => by have := inv_any p b x w1 h3 hm hc h1 h2; rwa [inv_ref p x hpr h3] at this
  have HIR := HIX r (by omega) (by omega)
  have HIN := HIX (n : Int) (by omega) (by omega)
  have HIS := HIX s (by omega) (by omega)
  have hvr := invn_lt p r h3
  have hvn := invn_lt p (n : Int) h3
  have hvs := invn_lt p s h3
  have hmade : (w1.alloc (.cells (madeCells #[.int .i64 0] n) 3)).drew.rowIs w1.heap.size 3 n (fun _ => .int .i64 0) := (World.rowIs_made w1 _ n _).drew
  have hcall := HSP.out n r (invn p r) g w1.heap.size 0 0 N n N n F (fun _ => .int .i64 0) (zat zs) (w1.alloc (.cells (madeCells #[.int .i64 0] n) 3)).drew hpW (by omega) (by omega) (by omega) (HRI.out.alloc _).drew hmade (by omega) (by omega) (by omega) (Nat.le_refl _) (by omega) (by omega)
    (HO.out.inv (inv_dvd_one hpr h3 (HO.out.nd hpr))) (fun j hj => by rw [Nat.zero_add]; exact HFV.out j (by have := HLEN.out; omega)) (fun j hj => HF.out j (by have := HLEN.out; omega))
  have HCALL := hid hcall
  clear hcall hmade hBW HIX
  refine wp_region_S (C := fun W => W.cell? ⟨d, 0, none⟩ = some (.pointer (some ⟨b, 0, none⟩)) ∧ W.cell? ⟨d, 1, none⟩ = some (.int .i64 n) ∧ W.cell? ⟨d, 2, none⟩ = some (.int .i64 r)) (st := [22]) hmx ?_
  show wpAnyS _ _ _ _ _ _ 23 (Array.replicate 23 false) _ _
  refine wpAnyS_pure (i := 0) (v := .pointer (some ⟨d, 0, none⟩)) rfl (by kernel_rfl) (by kernel_rfl) (by kernel_rfl) (by kernel_rfl) (fun _ _ _ h => h) (Or.inl ⟨by rfl, fun W _ => ?_⟩) (fun _ => hC0) ?_
  · go_simp
  refine wpAnyS_pure (i := 1) (v := .pointer (some ⟨d, 0, none⟩)) rfl (by kernel_rfl) (by kernel_rfl) (by kernel_rfl) (by kernel_rfl) (fun _ _ _ h => h) (Or.inl ⟨by rfl, fun W _ => ?_⟩) (fun _ => hC0) ?_
  · go_simp
  refine wpAnyS_pure (i := 2) (v := .pointer (some ⟨d, 0, none⟩)) rfl (by kernel_rfl) (by kernel_rfl) (by kernel_rfl) (by kernel_rfl) (fun _ _ _ h => h) (Or.inl ⟨by rfl, fun W _ => ?_⟩) (fun _ => hC0) ?_
  · go_simp
  refine wpAnyS_take (i := 3) (v := .agg #[.pointer (some ⟨b, 0, none⟩), .int .i64 n, .int .i64 r]) rfl (by kernel_rfl) (by kernel_rfl) (by kernel_rfl) (by kernel_rfl) (by kernel_rfl) (by kernel_rfl) (fun _ _ _ h => h) (Or.inl ⟨by rfl, fun W hC => ?_⟩) hC0 ?_
  · obtain ⟨g0, g1, g2⟩ := hC
    go_simp
  refine wpAnyS_pure (i := 4) (v := .slice (some ⟨g, 0, none⟩) n N) rfl (by kernel_rfl) (by kernel_rfl) (by kernel_rfl) (by kernel_rfl) (fun _ _ _ h => h) (Or.inl ⟨by rfl, fun W _ => ?_⟩) (fun _ => hC0) ?_
  · go_simp
  refine wpAnyS_pure (i := 5) (v := .pointer (some ⟨d, 0, none⟩)) rfl (by kernel_rfl) (by kernel_rfl) (by kernel_rfl) (by kernel_rfl) (fun _ _ _ h => h) (Or.inl ⟨by rfl, fun W _ => ?_⟩) (fun _ => hC0) ?_
  · go_simp
  refine wpAnyS_pure (i := 6) (v := .pointer (some ⟨d, 0, none⟩)) rfl (by kernel_rfl) (by kernel_rfl) (by kernel_rfl) (by kernel_rfl) (fun _ _ _ h => h) (Or.inl ⟨by rfl, fun W _ => ?_⟩) (fun _ => hC0) ?_
  · go_simp
  refine wpAnyS_pure (i := 7) (v := .pointer (some ⟨d, 0, none⟩)) rfl (by kernel_rfl) (by kernel_rfl) (by kernel_rfl) (by kernel_rfl) (fun _ _ _ h => h) (Or.inl ⟨by rfl, fun W _ => ?_⟩) (fun _ => hC0) ?_
  · go_simp
  refine wpAnyS_pure (i := 8) (v := .pointer (some ⟨d, 1, none⟩)) rfl (by kernel_rfl) (by kernel_rfl) (by kernel_rfl) (by kernel_rfl) (fun _ _ _ h => h) (Or.inl ⟨by rfl, fun W _ => ?_⟩) (fun _ => hC0) ?_
  · go_simp
  refine wpAnyS_take (i := 9) (v := .int .i64 n) rfl (by kernel_rfl) (by kernel_rfl) (by kernel_rfl) (by kernel_rfl) (by kernel_rfl) (by kernel_rfl) (fun _ _ _ h => h) (Or.inl ⟨by rfl, fun W hC => ?_⟩) hC0 ?_
  · obtain ⟨g0, g1, g2⟩ := hC
    go_simp
  refine wpAnyS_pure (i := 11) (v := .pointer (some ⟨d, 0, none⟩)) rfl (by kernel_rfl) (by kernel_rfl) (by kernel_rfl) (by kernel_rfl) (fun _ _ _ h => h) (Or.inl ⟨by rfl, fun W _ => ?_⟩) (fun _ => hC0) ?_
  · go_simp
  refine wpAnyS_pure (i := 12) (v := .pointer (some ⟨d, 0, none⟩)) rfl (by kernel_rfl) (by kernel_rfl) (by kernel_rfl) (by kernel_rfl) (fun _ _ _ h => h) (Or.inl ⟨by rfl, fun W _ => ?_⟩) (fun _ => hC0) ?_
  · go_simp
  refine wpAnyS_pure (i := 13) (v := .pointer (some ⟨d, 0, none⟩)) rfl (by kernel_rfl) (by kernel_rfl) (by kernel_rfl) (by kernel_rfl) (fun _ _ _ h => h) (Or.inl ⟨by rfl, fun W _ => ?_⟩) (fun _ => hC0) ?_
  · go_simp
  refine wpAnyS_pure (i := 14) (v := .pointer (some ⟨d, 0, none⟩)) rfl (by kernel_rfl) (by kernel_rfl) (by kernel_rfl) (by kernel_rfl) (fun _ _ _ h => h) (Or.inl ⟨by rfl, fun W _ => ?_⟩) (fun _ => hC0) ?_
  · go_simp
  refine wpAnyS_take (i := 15) (v := .pointer (some ⟨b, 0, none⟩)) rfl (by kernel_rfl) (by kernel_rfl) (by kernel_rfl) (by kernel_rfl) (by kernel_rfl) (by kernel_rfl) (fun _ _ _ h => h) (Or.inl ⟨by rfl, fun W hC => ?_⟩) hC0 ?_
  · obtain ⟨g0, g1, g2⟩ := hC
    go_simp
  refine wpAnyS_pure (i := 16) (v := .pointer (some ⟨d, 0, none⟩)) rfl (by kernel_rfl) (by kernel_rfl) (by kernel_rfl) (by kernel_rfl) (fun _ _ _ h => h) (Or.inl ⟨by rfl, fun W _ => ?_⟩) (fun _ => hC0) ?_
  · go_simp
  refine wpAnyS_pure (i := 17) (v := .pointer (some ⟨d, 0, none⟩)) rfl (by kernel_rfl) (by kernel_rfl) (by kernel_rfl) (by kernel_rfl) (fun _ _ _ h => h) (Or.inl ⟨by rfl, fun W _ => ?_⟩) (fun _ => hC0) ?_
  · go_simp
  refine wpAnyS_pure (i := 18) (v := .pointer (some ⟨d, 0, none⟩)) rfl (by kernel_rfl) (by kernel_rfl) (by kernel_rfl) (by kernel_rfl) (fun _ _ _ h => h) (Or.inl ⟨by rfl, fun W _ => ?_⟩) (fun _ => hC0) ?_
  · go_simp
  refine wpAnyS_pure (i := 19) (v := .pointer (some ⟨d, 2, none⟩)) rfl (by kernel_rfl) (by kernel_rfl) (by kernel_rfl) (by kernel_rfl) (fun _ _ _ h => h) (Or.inl ⟨by rfl, fun W _ => ?_⟩) (fun _ => hC0) ?_
  · go_simp
  refine wpAnyS_take (i := 20) (v := .int .i64 r) rfl (by kernel_rfl) (by kernel_rfl) (by kernel_rfl) (by kernel_rfl) (by kernel_rfl) (by kernel_rfl) (fun _ _ _ h => h) (Or.inl ⟨by rfl, fun W hC => ?_⟩) hC0 ?_
  · obtain ⟨g0, g1, g2⟩ := hC
    go_simp
  refine wpAnyS_two (i := 10) (j := 21) (by kernel_rfl) ?one ?two
  case' one =>
    refine wpOp_step rfl (fun K' hK' => ?_)
    rw [if_pos (by rfl)]
    go_simp
    refine hK' _ _ ⟨fun _ => hC1, ?_⟩
    clear hK' K'
    refine wpAnyS_one (i := 21) (by kernel_rfl) ?_
    refine wpOp_step rfl (fun K' hK' => ?_)
    rw [if_pos (by rfl)]
    go_simp
    refine (HIR.out _ hpW).mono ?_
    rintro e w5 ⟨rfl, rfl⟩
    refine hK' _ _ ⟨fun _ => hC1, ?_⟩
    clear hK' K'
  case' two =>
    refine wpOp_step rfl (fun K' hK' => ?_)
    rw [if_pos (by rfl)]
    go_simp
    refine (HIR.out w1.drew hpD).mono ?_
    rintro e w5 ⟨rfl, rfl⟩
    refine hK' _ _ ⟨fun _ => hC0, ?_⟩
    clear hK' K'
    refine wpAnyS_one (i := 10) (by kernel_rfl) ?_
    refine wpOp_step rfl (fun K' hK' => ?_)
    rw [if_pos (by rfl)]
    go_simp
    refine hK' _ _ ⟨fun _ => hC1, ?_⟩
    clear hK' K'
  all_goals
    refine wpAnyS_one (i := 22) (by kernel_rfl) ?_
    refine wpOp_step rfl (fun K' hK' => ?_)
    rw [if_pos (by rfl)]
    go_simp
    refine HCALL.out.mono ?_
    rintro e w3 ⟨rfl, hpa, F', G', hF', hG', hv, _, _⟩
    refine hK' _ _ ⟨fun h => absurd (h 22 (by simp)) (by decide), ?_⟩
    clear hK' K'
    refine wpAnyS_done (by kernel_rfl) ?_ _
    have hsz3 := hpa.size
    rw [hsW] at hsz3
    have HB3 : Hid (Below w.heap.size w w3) := (HB1.out.trans (HBW.out.mono (by omega))).trans (hpa.below (by rw [hsW]; omega) hg (by omega))
    have HF3 := hid hF'
    have HV3 : Hid (∀ j, j < n → F' j = .int .i64 (Dom.ft p (zat zs) (invn p r) n j)) := fun j hj => by have := hv j hj; rwa [Nat.zero_add] at this
    have y0 := (HB3.out.cell (p := ⟨d, 0, none⟩) hdl).trans c0
    have y1 := (HB3.out.cell (p := ⟨d, 1, none⟩) hdl).trans c1
    have y3 := (HB3.out.cell (p := ⟨d, 3, none⟩) hdl).trans c3
    have hpc3 := (HB3.out.cell (p := ⟨b, 0, none⟩) hbl).trans hp
    clear hpa hF' hG' hv HCALL hC0 hC1 x0 x1 x2 x3 hpc hpW hpD HRI HFV HBW HB1
    go_wp2_with fail
    go_quiet (first
      | (go_at_call_of 159 (Value.int IntKind.i64 (n : Int)); exact Calls.quiet_of_same (HIN.out _ hpc3))
      | (go_at_call_of 159 (Value.int IntKind.i64 s); exact Calls.quiet_of_same (HIS.out _ hpc3)))
    go_wp2_with fail
    have HB4 : Hid (Below w.heap.size w (w3.drewN nq)) := below_drewN HB3.out nq
    have HF4 : Hid ((w3.drewN nq).rowIs g 3 N F') := HF3
    have hsc0 : Hid (((invn p (n : Int) : Nat) : Int) = (invn p (n : Int) : Int) * (invn p s : Int) ^ 0 % (p : Int)) := by
      unfold Hid
      rw [Int.pow_zero, Int.mul_one]; exact (Int.emod_eq_of_lt (by omega) (by omega)).symm
    have HVF : Hid (∀ j, j < n → -9223372036854775808 ≤ Dom.ft p (zat zs) (invn p r) n j ∧ Dom.ft p (zat zs) (invn p r) n j ≤ 9223372036854775807) := ft_fits h3 hm (fun j hj => HF.out j (by have := HLEN.out; omega))
    clear HB3 HF3 y0 y1 y3 hpc3 HIR HIN HIS
    generalize w3.drewN nq = W4 at *
    go_loopw [7, 67] (fun xv iv wr => ∃ (i : Nat) (Fi : Nat → Value), i ≤ n ∧ iv = .int .i64 i ∧ xv = .int .i64 ((invn p (n : Int) : Int) * (invn p s : Int) ^ i % (p : Int)) ∧ Hid (wr.rowIs g 3 N Fi)
        ∧ Hid (∀ j, j < i → Fi j = .int .i64 (coefs p zs n (invn p r) (invn p n) (invn p s) j)) ∧ Hid (∀ j, i ≤ j → j < n → Fi j = .int .i64 (Dom.ft p (zat zs) (invn p r) n j)) ∧ Hid (Below w.heap.size w wr))
      (fun _ iv _ => n - (intOf iv).toNat)
    case atStart => exact ⟨0, F', Nat.zero_le _, rfl, by rw [← hsc0.out], HF4, fun j hj => by omega, fun j _ hj => HV3.out j hj, HB4⟩
    case round =>
      obtain ⟨i, Fi, hi, rfl, rfl, hri, hlo, hhi, hbel⟩ := hrel
      have y0 := (hbel.out.cell (p := ⟨d, 0, none⟩) hdl).trans c0
      have hpc := (hbel.out.cell (p := ⟨b, 0, none⟩) hbl).trans hp
      by_cases hlt : i < n
      · have hlt2 : (i : Int) < (n : Int) := by omega
        have hok := hri.out.cell (i := i) (by omega)
        rw [hhi.out i (Nat.le_refl _) hlt] at hok
        have hos := hri.out.frozen i
        obtain ⟨qb1, qb2⟩ := emod_bounds ((invn p (n : Int) : Int) * (invn p s : Int) ^ i) p h3
        have HVI := HVF.out i hlt
        have HC : Hid (Dom.ft p (zat zs) (invn p r) n i * ((invn p (n : Int) : Int) * (invn p s : Int) ^ i % (p : Int)) % (p : Int) = coefs p zs n (invn p r) (invn p n) (invn p s) i) := rfl
        have HM : Hid (∀ w1 : World, w1.cell? ⟨b, 0, none⟩ = some (.int .i64 p) → Calls Tryz.prog 134 #[.pointer (some ⟨b, 0, none⟩), .int .i64 (Dom.ft p (zat zs) (invn p r) n i), .int .i64 ((invn p (n : Int) : Int) * (invn p s : Int) ^ i % (p : Int))] w1 fun e w' => e = .returned (.int .i64 (coefs p zs n (invn p r) (invn p n) (invn p s) i)) ∧ w' = w1) :=
          fun w1 hc => mul_any p b _ _ w1 h3 hm hc HVI.1 HVI.2 (by omega) (by omega)
        have HQ : Hid (∀ w1 : World, w1.cell? ⟨b, 0, none⟩ = some (.int .i64 p) → Calls Tryz.prog 134 #[.pointer (some ⟨b, 0, none⟩), .int .i64 ((invn p (n : Int) : Int) * (invn p s : Int) ^ i % (p : Int)), .int .i64 (invn p s)] w1 fun e w' => e = .returned (.int .i64 ((invn p (n : Int) : Int) * (invn p s : Int) ^ (i + 1) % (p : Int))) ∧ w' = w1) :=
          fun w1 hc => by
            have := mul_any p b ((invn p (n : Int) : Int) * (invn p s : Int) ^ i % (p : Int)) (invn p s) w1 h3 hm hc (by omega) (by omega) (by omega) (by omega)
            rwa [show (invn p (n : Int) : Int) * (invn p s : Int) ^ i % (p : Int) * (invn p s : Int) % (p : Int) = (invn p (n : Int) : Int) * (invn p s : Int) ^ (i + 1) % (p : Int) from Dom.pt_succ p _ _ i] at this
        have HRI : Hid ((wr.setCell ⟨g, i, none⟩ (.int .i64 (coefs p zs n (invn p r) (invn p n) (invn p s) i))).rowIs g 3 N (fun j => if j = i then .int .i64 (coefs p zs n (invn p r) (invn p n) (invn p s) i) else Fi j)) := hri.out.set i _
        have HLO : Hid (∀ j, j < i + 1 → (fun j => if j = i then Value.int .i64 (coefs p zs n (invn p r) (invn p n) (invn p s) i) else Fi j) j = .int .i64 (coefs p zs n (invn p r) (invn p n) (invn p s) j)) := fun j hj => by
          show (if j = i then _ else _) = _
          by_cases e : j = i
          · rw [if_pos e, e]
          · rw [if_neg e]; exact hlo.out j (by omega)
        have HHI : Hid (∀ j, i + 1 ≤ j → j < n → (fun j => if j = i then Value.int .i64 (coefs p zs n (invn p r) (invn p n) (invn p s) i) else Fi j) j = .int .i64 (Dom.ft p (zat zs) (invn p r) n j)) := fun j h1 h2 => by
          show (if j = i then _ else _) = _
          rw [if_neg (by omega)]; exact hhi.out j (by omega) h2
        have HBN := hid (hbel.out.setCell (p := ⟨g, i, none⟩) hg (.int .i64 (coefs p zs n (invn p r) (invn p n) (invn p s) i)))
        obtain ⟨sn, hsn⟩ : ∃ sn, sn = (invn p (n : Int) : Int) * (invn p s : Int) ^ (i + 1) % (p : Int) := ⟨_, rfl⟩
        have HSN := hid hsn
        rw [← hsn] at HQ
        clear hsn HC hri hlo hhi
        generalize (invn p (n : Int) : Int) * (invn p s : Int) ^ i % (p : Int) = si at *
        generalize Dom.ft p (zat zs) (invn p r) n i = fi at *
        obtain ⟨ci, hci⟩ : ∃ ci, ci = coefs p zs n (invn p r) (invn p n) (invn p s) i := ⟨_, rfl⟩
        rw [← hci] at HM HRI HLO HHI HBN
        have hpc2 : Hid ((wr.setCell ⟨g, i, none⟩ (.int .i64 ci)).drew.cell? ⟨b, 0, none⟩ = some (.int .i64 p)) := (HBN.out.cell (p := ⟨b, 0, none⟩) hbl).trans hp
        have z0 : (wr.setCell ⟨g, i, none⟩ (.int .i64 ci)).cell? ⟨d, 0, none⟩ = some (.pointer (some ⟨b, 0, none⟩)) := (HBN.out.cell (p := ⟨d, 0, none⟩) hdl).trans c0
        clear hci
        go_wp2_with fail
        go_still_tail 13, hmx
        still_call (HM.out _ hpc)
        refine wpStill_nil ?_
        go_wp2_with fail
        refine (HQ.out _ hpc2.out).mono ?_
        rintro e w6 ⟨rfl, rfl⟩
        go_wp2_with fail
        go_roundw
        case rel => exact ⟨i + 1, _, by omega, by go_num, by rw [HSN.out], HRI, HLO, HHI, HBN.out.drew⟩
        case measure => simp [intOf]; omega
      · have hlt2 : ¬ (i : Int) < (n : Int) := by omega
        have HLN : Hid (∀ j, j < n → Fi j = .int .i64 (coefs p zs n (invn p r) (invn p n) (invn p s) j)) := fun j hj => hlo.out j (by omega)
        have HDA : Hid (DomAt wr d b n r s) := HD.out.below hbel.out hdl
        have HRW : Hid (RowP (· < wr.heap.size) wr (some ⟨g, 0, none⟩) (ls (coefs p zs n (invn p r) (invn p n) (invn p s)) n)) := fun j hj => by
          rw [ls_len] at hj
          exact ⟨g, 0, rfl, hri.out.lt, by rw [Nat.zero_add, ls_at _ _ _ hj, ← HLN.out j hj]; exact hri.out.cell (by omega)⟩
        have HFT : Hid (Fits (ls (coefs p zs n (invn p r) (invn p n) (invn p s)) n)) := fun j hj => by
          rw [ls_len] at hj
          rw [ls_at _ _ _ hj]
          have := emod_bounds (Dom.ft p (zat zs) (invn p r) n j * ((invn p (n : Int) : Int) * (invn p s : Int) ^ j % (p : Int))) p h3
          unfold coefs
          omega
        have HT := hid (trim_full p b N (· < wr.heap.size) (some ⟨g, 0, none⟩) (ls (coefs p zs n (invn p r) (invn p n) (invn p s)) n) wr h3 hm hpc (by rw [ls_len]; omega) HFT.out HRW.out (fun _ h => h))
        rw [ls_len] at HT
        clear hlo hhi hri HLN HRW HFT
        obtain ⟨ts, hts⟩ : ∃ ts, ts = Pol.trim p (ls (coefs p zs n (invn p r) (invn p n) (invn p s)) n) := ⟨_, rfl⟩
        have HTS := hid hts
        rw [← hts] at HT
        clear hts
        go_wp2_with fail
        refine (dfield_any d b n r s wr HDA.out).mono ?_
        rintro e w5 ⟨rfl, rfl⟩
        go_wp2_with fail
        refine HT.out.mono ?_
        rintro e w6 ⟨rfl, hct, hbt, hst, hri6⟩
        have HB6 : Hid (Below w.heap.size w w6) := hbel.out.trans (hbt.mono hbel.out.size)
        have HL6 : Hid (NumL w6 (some ⟨w5.heap.size, 0, none⟩) ts.length ts) := ⟨⟨hct.row (Nat.le_refl _) (fun _ _ => rfl) (by omega), Nat.le_refl _, fun e => by cases e⟩, fun _ => ⟨w5.heap.size, 0, _, _, rfl, hri6.choose_spec.1⟩⟩
        clear hct hbt hst hri6
        go_wp2_with fail
        go_ret2
        rw [← HTS.out]
        exact ⟨_, _, rfl, HL6.out, HB6.out⟩


theorem coef_numD {w : World} {p b d n : Nat} {r s : Int} (D : DO w p b d n r s) (a : Option Addr) (cap : Nat) (zs : List Int) (hlen : zs.length = n) (hfit : Fits zs) (hl : Lst w.heap.size w a cap zs) :
    Calls Tryz.prog 88 #[.pointer (some ⟨d, 0, none⟩), .slice a n cap] w fun e w' =>
      ∃ (g c : Nat), e = .returned (.tuple #[.slice (some ⟨g, 0, none⟩) (bk p n r s zs).length c, .nilIface]) ∧ NumL w' (some ⟨g, 0, none⟩) c (bk p n r s zs) ∧ Below w.heap.size w w' := by
  obtain ⟨k, h1, h2⟩ := D.hk
  exact coef_num p b d k n cap r s a zs w D.pr D.h3 D.hm D.hp D.da h1 h2 D.hr0 D.hr1 D.ord D.hs0 D.hs1 hlen hfit hl

end Go.Proofs.YtfppkjpgihnibaaGreatDoor
