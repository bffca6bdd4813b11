/- attestref3, the digests: Hash; attestref1.Same; attestlaw3.differ. -/
import Derived.Test.YtfijhnojflcajaeDoorRefH
namespace Go.Proofs.YtfijhnojflcajaeDoor
open Go.RowKit

/-- four of a list are added to a state's first four places -/
def soak (q : Nat) (s P : Nat → Int) (t : Nat) (j : Nat) : Int := if j < 4 then (s j + P (4 * t + j)) % (q : Int) else s j
/-- the state behind t fours of a list -/
def hst (q n : Nat) (P : Nat → Int) : Nat → Nat → Int
  | 0, _ => 0
  | t + 1, j => stir q n (soak q (hst q n P t) P t) 8 j
theorem hst_bounds (q n : Nat) (P : Nat → Int) (t j : Nat) (h3 : 3 ≤ q) : 0 ≤ hst q n P t j ∧ hst q n P t j < q := by
  cases t with
  | zero => exact ⟨Int.le_refl _, by show (0 : Int) < q; omega⟩
  | succ t => exact stir_bounds _ _ _ _ _ h3
theorem pdf_bounds (q : Nat) (f : Nat → Int) (n j : Nat) (h3 : 3 ≤ q) : 0 ≤ pdf q f n j ∧ pdf q f n j < q := by
  unfold pdf
  split
  · exact emod_bounds _ q h3
  · split <;> omega

set_option maxRecDepth 100000 in
set_option maxHeartbeats 1000000 in
theorem rhash_any (q n len cap : Nat) (a : Option Addr) (f : Nat → Int) (w : World) (h5 : 5 ≤ q) (h4 : q ≤ 2147483647) (hpn : Spo.PowIs q n) (hlen : len ≤ 17592186044400) (hfit : FitsF len f) (hrow : RowF (· < w.heap.size) w a len f) :
    Calls Tryd.prog 12 #[.int .i64 q, .slice a len cap] w fun e w' => ∃ (g N : Nat) (F : Nat → Value),
      e = .returned (.slice (some ⟨g, 0, none⟩) 4 N) ∧ w.heap.size ≤ g ∧ w'.rowIs g 3 N F ∧ 8 ≤ N ∧ (∀ j, j < 4 → F j = .int .i64 (hst q n (pdf q f len) (len / 4 + 1) j)) ∧ Below w.heap.size w w' := by
  have h3 : 3 ≤ q := by omega
  have hmx : Tryd.prog.follows .mixedOrders = true := by kernel_rfl
  have HPN := hid hpn
  have hmk := fun n h1 h2 w => run_make_row' (P := Tryd.prog) 22 3 (.int .i64 0) 8 Tryd.underlying22 Tryd.infoInt rfl .i64 .i64 n h1 h2 w
  have hmk2 : ∀ w : World, Sem.run Tryd.prog (Instr.makeSlice 22 (.int .i64 8) (.int .i64 8)) w = Result.ok (.slice (some ⟨w.heap.size, 0, none⟩) 8 8) (w.alloc (.cells (madeCells #[.int .i64 0] 8) 3)) := hmk 8 (by omega) (by omega)
  clear hmk
  have HPA : Hid (∀ W : World, Below w.heap.size w W → Calls Tryd.prog 8 #[.int .i64 q, .slice a len cap] W fun e w' => ∃ v, e = .returned v ∧ w'.ownsRow W.heap.size 3 1 v (ls (pdf q f len) (pln len)).length ((ls (pdf q f len) (pln len)).map (Value.int .i64)) ∧ Below W.heap.size W w') :=
    fun W h => rpad_own q len cap a f W h3 h4 hlen hfit (fun j hj => by
      obtain ⟨bl, ol, e1, e2, e3⟩ := hrow j hj
      exact ⟨bl, ol, e1, by have := h.size; omega, (h.cell (p := ⟨bl, ol + j, none⟩) e2).trans e3⟩)
  have HPB : Hid (∀ j, 0 ≤ pdf q f len j ∧ pdf q f len j < q) := fun j => pdf_bounds q f len j h3
  obtain ⟨P, hP⟩ : ∃ P, P = pdf q f len := ⟨_, rfl⟩
  obtain ⟨B, hB⟩ : ∃ B, B = len / 4 + 1 := ⟨_, rfl⟩
  obtain ⟨T, hT⟩ : ∃ T, T = pln len := ⟨_, rfl⟩
  have hTB : T = 4 * B := by rw [hT, hB]; rfl
  have hTl : T ≤ len + 4 := by rw [hT]; unfold pln; omega
  have hB1 : 1 ≤ B := by omega
  rw [← hP, ← hT] at HPA
  rw [← hP] at HPB
  rw [← hP, ← hB]
  have HTB := hid hTB
  have hTp : 0 < T := by omega
  clear hfit hrow hpn hP hB hT hTB
  go_enter Tryd.func12, Tryd.ntmps12
  go_wp2_with fail
  have HM0 : Hid ((w.alloc (.cells (madeCells #[.int .i64 0] 8) 3)).rowIs w.heap.size 3 8 (fun _ => .int .i64 0)) := (World.rowIs_made _ _ _ _).congr (fun j _ => rfl)
  have HB0 : Hid (Below w.heap.size w (w.alloc (.cells (madeCells #[.int .i64 0] 8) 3))) := (Below.refl _ _).alloc (Nat.le_refl _) _
  have hs0 : w.heap.size < (w.alloc (.cells (madeCells #[.int .i64 0] 8) 3)).heap.size := by simp
  refine (HPA.out _ HB0.out).mono ?_
  generalize w.alloc (.cells (madeCells #[.int .i64 0] 8) 3) = W0 at *
  rintro e w1 ⟨v, rfl, hown, hb1⟩
  have hll := ls_len P T
  obtain ⟨gm, Nm, Fm, rfl, hgm, hrim, hNm, hFm⟩ := rowIs_of_owns hown (by rw [hll]; exact hTp)
  rw [hll] at hNm hFm ⊢
  have HMC : Hid (∀ j, j < T → w1.cell? ⟨gm, j, none⟩ = some (.int .i64 (P j))) := fun j hj => by rw [← ls_at P T j hj, ← hFm j hj]; exact hrim.cell (by omega)
  have hgml := hrim.lt
  have HRI1 : Hid (w1.rowIs w.heap.size 3 8 (fun _ => .int .i64 0)) := HM0.out.of_block (hb1.block _ hs0)
  have HB1 : Hid (Below w.heap.size w w1) := HB0.out.trans (hb1.mono HB0.out.size)
  have hg0 : w.heap.size ≠ gm := by omega
  have hgmw : w.heap.size ≤ gm := by omega
  clear hll hown hrim hFm hNm hb1 HPA HM0 HB0 hs0 hgm
  go_wp2_with fail
  go_loopw [5, 7] (fun sv iv wr => ∃ (t g N : Nat) (F : Nat → Value), t ≤ B ∧ iv = .int .i64 ((4 * t : Nat) : Int) ∧ sv = .slice (some ⟨g, 0, none⟩) 8 N ∧ w.heap.size ≤ g ∧ g ≠ gm ∧ gm < wr.heap.size ∧ Hid (wr.rowIs g 3 N F) ∧ 8 ≤ N ∧ Hid (∀ j, j < 8 → F j = .int .i64 (hst q n P t j)) ∧ Hid (∀ j, j < T → wr.cell? ⟨gm, j, none⟩ = some (.int .i64 (P j))) ∧ Hid (Below w.heap.size w wr))
    (fun _ iv _ => T - (intOf iv).toNat)
  case atStart => exact ⟨0, w.heap.size, 8, fun _ => .int .i64 0, Nat.zero_le _, rfl, rfl, Nat.le_refl _, hg0, hgml, HRI1, Nat.le_refl _, fun j hj => rfl, HMC, HB1⟩
  case round =>
    obtain ⟨t, g, N, F, ht, rfl, rfl, hg, hgne, hgl, hri, hN, hF, hmc, hbel⟩ := hrel
    obtain ⟨wo, rfl⟩ : ∃ wo, wo = wr := ⟨_, rfl⟩
    obtain ⟨t4, ht4⟩ : ∃ t4, t4 = 4 * t := ⟨_, rfl⟩
    rw [← ht4]
    have hTB' := HTB.out
    by_cases hlt : t < B
    · have hlt2 : (t4 : Int) < (T : Int) := by omega
      have h43 : t4 + 3 < T := by omega
      have HT4 := hid ht4
      have HHB : Hid (∀ j, 0 ≤ hst q n P t j ∧ hst q n P t j < q) := fun j => hst_bounds q n P t j h3
      have HHS : Hid (∀ j, hst q n P (t + 1) j = stir q n (soak q (hst q n P t) P t) 8 j) := fun _ => rfl
      obtain ⟨S, hS⟩ : ∃ S, S = hst q n P t := ⟨_, rfl⟩
      rw [← hS] at HHB HHS hF
      have HSK : Hid (∀ j, soak q S P t j = if j < 4 then (S j + P (t4 + j)) % (q : Int) else S j) := fun j => by unfold soak; rw [HT4.out]
      obtain ⟨K, hK⟩ : ∃ K, K = soak q S P t := ⟨_, rfl⟩
      rw [← hK] at HHS HSK
      clear hS hK ht4 hTB'
      go_wp2_with fail
      go_loopw [8] (fun kv wr => ∃ (k : Nat) (F' : Nat → Value), k ≤ 4 ∧ kv = .int .i64 k ∧ Hid (wr.rowIs g 3 N F') ∧ Hid (∀ j, j < k → F' j = .int .i64 (K j)) ∧ Hid (∀ j, k ≤ j → j < 8 → F' j = .int .i64 (S j)) ∧ Hid (∀ j, j < T → wr.cell? ⟨gm, j, none⟩ = some (.int .i64 (P j))) ∧ Hid (Below w.heap.size w wr) ∧ gm < wr.heap.size)
        (fun kv _ => 4 - (intOf kv).toNat)
      case atStart => exact ⟨0, F, Nat.zero_le _, rfl, hri, fun j hj => by omega, fun j _ hj => hF.out j hj, hmc, hbel, hgl⟩
      case round =>
        obtain ⟨k, F', hk, rfl, hri', hlo, hhi, hmc', hbel', hgl'⟩ := hrel
        by_cases hkl : k < 4
        · have hkl2 : (k : Int) < 4 := by omega
          have hok := hri'.out.cell (i := k) (by omega)
          rw [hhi.out k (Nat.le_refl _) (by omega)] at hok
          have hos := hri'.out.frozen k
          have hmk' := hmc'.out (t4 + k) (by omega)
          obtain ⟨s1, s2⟩ := HHB.out k
          obtain ⟨p1, p2⟩ := HPB.out (t4 + k)
          have HKK := hid (HSK.out k)
          rw [if_pos hkl] at HKK
          obtain ⟨u, hu⟩ : ∃ u, u = t4 + k := ⟨_, rfl⟩
          rw [← hu] at hmk' HKK p1 p2
          have eu : (t4 : Int) + (k : Int) = (u : Int) := by omega
          have huT : (u : Int) < (T : Int) := by omega
          obtain ⟨z1, z2⟩ := emod_bounds (S k + P u) q h3
          have HRI2 : Hid ((wr.setCell ⟨g, k, none⟩ (.int .i64 (K k))).rowIs g 3 N (fun j => if j = k then .int .i64 (K k) else F' j)) := hri'.out.set k _
          have HLO : Hid (∀ j, j < k + 1 → (fun j => if j = k then Value.int .i64 (K k) else F' j) j = .int .i64 (K j)) := fun j hj => by
            show (if j = k then _ else _) = _
            by_cases e : j = k
            · rw [if_pos e, e]
            · rw [if_neg e]; exact hlo.out j (by omega)
          have HHI : Hid (∀ j, k + 1 ≤ j → j < 8 → (fun j => if j = k then Value.int .i64 (K k) else F' j) j = .int .i64 (S j)) := fun j g1 g2 => by
            show (if j = k then _ else _) = _
            rw [if_neg (by omega)]; exact hhi.out j (by omega) g2
          have HMC2 : Hid (∀ j, j < T → (wr.setCell ⟨g, k, none⟩ (.int .i64 (K k))).cell? ⟨gm, j, none⟩ = some (.int .i64 (P j))) := fun j hj => by
            rw [World.cell?_setCell_other _ _ _ _ (by intro e; injection e with e1 _ _; exact hgne e1)]; exact hmc'.out j hj
          have HBN := hid (hbel'.out.setCell (p := ⟨g, k, none⟩) hg (.int .i64 (K k)))
          have hgl2 : gm < (wr.setCell ⟨g, k, none⟩ (.int .i64 (K k))).heap.size := by simp [World.setCell]; exact hgl'
          rw [HKK.out] at HRI2 HLO HHI HMC2 HBN hgl2
          clear hri' hlo hhi hmc' hu HKK
          obtain ⟨z, hz⟩ : ∃ z, z = (S k + P u) % (q : Int) := ⟨_, rfl⟩
          rw [← hz] at HRI2 HLO HHI HMC2 HBN hgl2 z1 z2
          have ez : (S k + P u) % (q : Int) = z := hz.symm
          clear hz
          generalize S k = x at *
          generalize P u = y at *
          go_wp2_with fail
          have wr1 : IntKind.i64.wrap (u : Int) = (u : Int) := Go.IntWalk.i64_in _ (by omega)
          have wr2 : IntKind.i64.wrap (x + y) = x + y := Go.IntWalk.i64_in _ (by omega)
          have wr3 : IntKind.i64.wrap ((x + y).tmod (q : Int)) = z := by rw [Int.tmod_eq_emod_of_nonneg (by omega), ez]; exact Go.IntWalk.i64_in _ (by omega)
          have hqz : ((q : Int) == 0) = false := by rw [beq_eq_false_iff_ne]; omega
          have hk8 : (k : Int) < 8 := by omega
          have hq1 : ¬ ((q : Int) = 0) := by omega
          have hq2 : ¬ q = 0 := by omega
          go_still_tail 15, hmx
          go_wp2_with fail
          go_roundw
          case rel => exact ⟨k + 1, _, by omega, by go_num, HRI2, HLO, HHI, HMC2, HBN.out.drew, hgl2⟩
          case measure => simp [intOf]; omega
        · have hkl2 : ¬ (k : Int) < 4 := by omega
          obtain rfl : k = 4 := by omega
          obtain ⟨w5, rfl⟩ : ∃ w5, w5 = wr := ⟨_, rfl⟩
          have HKV : Hid (∀ j, j < 8 → F' j = .int .i64 (K j)) := fun j hj => by
            by_cases e : j < 4
            · exact hlo.out j e
            · rw [hhi.out j (by omega) hj, HSK.out j, if_neg e]
          have HKB : Hid (∀ j, 0 ≤ K j ∧ K j < q) := fun j => by
            rw [HSK.out j]
            split
            · exact emod_bounds _ q h3
            · exact HHB.out j
          have HPM := hid (rperm_any q n N (some ⟨g, 0, none⟩) K w5 h5 h4 HPN.out (fun j hj => by have := HKB.out j; omega) (fun j hj => ⟨g, 0, rfl, hri'.out.lt, by rw [Nat.zero_add, hri'.out.cell (show j < N by omega), HKV.out j hj]⟩))
          have HMC5 := hid hmc'.out
          clear hri' hlo hhi hmc' hri hF hmc hbel hgl
          go_wp2_with fail
          refine HPM.out.mono ?_
          rintro e w6 ⟨g6, N6, F6, rfl, hg6, hri6, hN6, hF6, hb6⟩
          have HRI6 := hid hri6
          have HF6 : Hid (∀ j, j < 8 → F6 j = .int .i64 (hst q n P (t + 1) j)) := fun j hj => by rw [HHS.out]; exact hF6 j hj
          have HB6 : Hid (Below w.heap.size w w6) := hbel'.out.trans (hb6.mono hbel'.out.size)
          have HMC6 : Hid (∀ j, j < T → w6.cell? ⟨gm, j, none⟩ = some (.int .i64 (P j))) := fun j hj => (hb6.cell (p := ⟨gm, j, none⟩) hgl').trans (HMC5.out j hj)
          have hg6' : w.heap.size ≤ g6 := by have := hbel'.out.size; omega
          have hne6 : g6 ≠ gm := by omega
          have hgl6 : gm < w6.heap.size := by have := hb6.size; omega
          have e4 : (t4 : Int) + 4 = ((4 * (t + 1) : Nat) : Int) := by have := HT4.out; omega
          clear hri6 hF6 hb6 HPM
          go_wp2_with fail
          go_roundw
          case rel => exact ⟨t + 1, g6, N6, F6, by omega, by go_num, rfl, hg6', hne6, hgl6, HRI6, hN6, HF6, HMC6, HB6⟩
          case measure => simp [intOf]; omega
    · have hlt2 : ¬ (t4 : Int) < (T : Int) := by omega
      obtain rfl : t = B := by omega
      have HE : Hid (w.heap.size ≤ g ∧ wo.rowIs g 3 N F ∧ 8 ≤ N ∧ (∀ j, j < 4 → F j = .int .i64 (hst q n P t j)) ∧ Below w.heap.size w wo) := ⟨hg, hri.out, hN, fun j hj => hF.out j (by omega), hbel.out⟩
      have hN4 : (4 : Int) ≤ (N : Int) := by omega
      clear hTB' ht4
      go_wp2_with fail
      go_ret
      first
        | exact ⟨g, N, F, rfl, HE.out⟩
        | exact ⟨g, N, rfl, HE.out.1, F, HE.out.2⟩

end Go.Proofs.YtfijhnojflcajaeDoor
