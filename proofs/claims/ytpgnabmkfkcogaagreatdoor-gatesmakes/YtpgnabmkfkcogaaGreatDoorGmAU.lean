/- Package gates, on the way down: line, round. Chapter 18, plainly: what Make tells is taken by Check. -/
import Derived.Test.YtpgnabmkfkcogaaGreatDoorGuE
namespace Go.Proofs.YtpgnabmkfkcogaaGreatDoor
open Go.RowKit

/-- what a list extends to on the line through two points -/
def lnz (p : Nat) (t x y : List Int) (m : Nat) : List Int := ls (fun k => Sum.ext (zat t) (zat (onl p x y (k : Int))) m % (p : Int)) (m + 1)
/-- what is told in a round -/
def tld (p : Nat) (gs : List GatZ) (t : List Int) (n : Nat) (z xs : List Int) : List Int := ls (fun k => ptz p gs t n z (xs ++ [(k : Int)])) 3

set_option maxRecDepth 100000 in
set_option maxHeartbeats 4000000 in
theorem gtline_any (p b n cg cb cx cy : Nat) (ag ab ax ay : Option Addr) (ng : Nat) (t x y : List Int) (w : World) (hIT : InT p b w) (hn : n ≤ 6) (ht : t.length = 2 ^ n) (hx : x.length = n) (hy : y.length = n) (ft : Fits t) (fx : Fits x) (fy : Fits y) (lt : Lst w.heap.size w ab cb t) (rx : RowB w.heap.size w ax x) (ry : RowB w.heap.size w ay y) :
    Calls Tryz.prog 153 #[.agg #[.pointer (some ⟨b, 0, none⟩), .slice ag ng cg, .int .i64 (n : Int)], .slice ab t.length cb, .slice ax n cx, .slice ay n cy] w fun e w' => ∃ O, e = .returned (.slice (some ⟨O, 0, none⟩) (n + 1) (n + 1)) ∧ w.heap.size ≤ O ∧ ArrI w' O 3 (n + 1) (zat (lnz p t x y n)) ∧ Below w.heap.size w w' := by
  have h3 := hIT.h3
  have hm := hIT.hm
  have hp := hIT.cell
  obtain ⟨W0, hW0⟩ : ∃ W0, W0 = w.alloc (.cells #[.pointer (some ⟨b, 0, none⟩), .slice ag ng cg, .int .i64 (n : Int)] 149) := ⟨_, rfl⟩
  obtain ⟨hb0, hs0, hz0⟩ := own_blk hW0
  obtain ⟨G, hG⟩ : ∃ G, G = w.heap.size := ⟨_, rfl⟩
  rw [← hG] at hs0
  have HGE := hid hG
  have HB0 := hid hb0
  have HGL : Hid (G < W0.heap.size) := by unfold Hid; omega
  have HC : Hid (∀ W, Below W0.heap.size W0 W → W.cell? ⟨G, 0, none⟩ = some (.pointer (some ⟨b, 0, none⟩)) ∧ W.cell? ⟨G, 1, none⟩ = some (.slice ag ng cg) ∧ W.cell? ⟨G, 2, none⟩ = some (.int .i64 (n : Int)) ∧ W.cell? ⟨b, 0, none⟩ = some (.int .i64 p)) := fun W hW => by
    have e := (hW.block G HGL.out).trans hs0
    have hb := HB0.out.trans (hW.mono HB0.out.size)
    exact ⟨by simp [World.cell?, e], by simp [World.cell?, e], by simp [World.cell?, e], (hb.cell (p := ⟨b, 0, none⟩) (heap_lt hp)).trans hp⟩
  obtain ⟨O, hO⟩ : ∃ O, O = w.heap.size + 1 := ⟨_, rfl⟩
  have HOE : Hid (O = W0.heap.size) := by unfold Hid; omega
  have HOW : Hid (w.heap.size ≤ O) := by unfold Hid; omega
  have HBW : Hid (∀ W, Below W0.heap.size W0 W → Below w.heap.size w W) := fun W hW => HB0.out.trans (hW.mono HB0.out.size)
  obtain ⟨F, hF⟩ : ∃ F : Nat → Int, F = zat (lnz p t x y n) := ⟨_, rfl⟩
  obtain ⟨nn, hnn⟩ : ∃ nn, nn = n + 1 := ⟨_, rfl⟩
  obtain ⟨nt, hnt⟩ : ∃ nt, nt = t.length := ⟨_, rfl⟩
  have HFE : Hid (∀ k, k < nn → Sum.ext (zat t) (zat (onl p x y (k : Int))) n % (p : Int) = F k) := fun k hk => by
    rw [hF]
    unfold lnz
    rw [ls_at _ _ _ (by omega)]
  have HBT0 : Hid (∀ W (k : Nat), k ≤ 100 → Below W0.heap.size W0 W → Calls Tryz.prog 154 #[.agg #[.pointer (some ⟨b, 0, none⟩), .slice ag ng cg, .int .i64 (n : Int)], .slice ax n cx, .slice ay n cy, .int .i64 (k : Int)] W fun e w' => ∃ O, e = .returned (.slice (some ⟨O, 0, none⟩) n n) ∧ W.heap.size ≤ O ∧ ArrI w' O 3 n (zat (onl p x y (k : Int))) ∧ Below W.heap.size W w') := fun W k hk hW => by
    have hw := HBW.out W hW
    have h := between_any p b cx cy (.slice ag ng cg) (.int .i64 (n : Int)) ax ay x y (k : Int) W h3 hm (HC.out W hW).2.2.2 (by omega) (by omega) fx fy ⟨by omega, by omega⟩ ((rx.below hw).mono hw.size) ((ry.below hw).mono hw.size)
    rw [hx, hy] at h
    exact h
  have HEX0 : Hid (∀ W P (k : Nat), k < nn → Below W0.heap.size W0 W → ArrI W P 3 n (zat (onl p x y (k : Int))) → Calls Tryz.prog 93 #[.pointer (some ⟨b, 0, none⟩), .slice ab nt cb, .slice (some ⟨P, 0, none⟩) n n] W fun e w' => e = .returned (.int .i64 (F k)) ∧ Below W.heap.size W w') := fun W P k hk hW hA => by
    have hw := HBW.out W hW
    have hl : (onl p x y (k : Int)).length = n := by rw [onl_len, hx]
    have h := extended_any p b n cb n ab (some ⟨P, 0, none⟩) t (onl p x y (k : Int)) W (hIT.below hw) hn ht hl ft (onl_fits h3 hm _ _ _) ((lt.below hw).mono hw.size) (arr_num hA hl).1.row
    rw [hl, ← hnt] at h
    rw [← HFE.out k hk]
    exact h
  have hmk2 := fun w => run_make_row' (P := Tryz.prog) 23 3 (.int .i64 0) 8 Tryz.underlying23 Tryz.infoInt rfl .i64 .i64 nn (by omega) (by omega) w
  have hw1 : IntKind.i64.wrap ((n : Int) + 1) = (nn : Int) := by rw [IntKind.wrap_i64]; omega
  rw [← hF, ← hnt, ← hnn]
  have hnn7 : nn ≤ 7 := by omega
  clear hp ft fx fy lt rx ry hF hnn hnt hs0 hb0 hz0 hG hIT ht hx hy
  go_enter Tryz.func153, Tryz.ntmps153
  go_wp2_with fail
  rw [← hO, ← HGE.out, ← hW0]
  clear hW0 hO
  go_loopw [10, 17] (fun _ iv wr => ∃ k : Nat, k ≤ nn ∧ iv = .int .i64 (k : Int) ∧ Hid (ArrI wr O 3 nn (fll F (fun _ => 0) k) ∧ Below W0.heap.size W0 wr)) (fun _ iv _ => nn - (intOf iv).toNat)
  case atStart => exact ⟨0, by omega, rfl, by rw [fll_zero, HOE.out]; exact World.rowIs_made _ _ _ _, (Below.refl _ _).alloc (Nat.le_refl _) _⟩
  case round =>
    obtain ⟨k, hk, rfl, hI⟩ := hrel
    by_cases hlt : k < nn
    · have hlt2 : (k : Int) < (nn : Int) := by omega
      have hks : IntKind.i64.wrap ((k : Int) + 1) = (k : Int) + 1 := by rw [IntKind.wrap_i64]; omega
      have HWD0 : Hid (Below W0.heap.size W0 wr.drew) := hI.out.2.drew
      have HAD0 : Hid (ArrI wr.drew O 3 nn (fll F (fun _ => 0) k)) := hI.out.1.below ((Below.refl _ _).drew (w := wr)) (by exact hI.out.1.lt)
      have HSB : Hid (∀ W, Below wr.drew.heap.size wr.drew W → W.cell? ⟨G, 0, none⟩ = some (.pointer (some ⟨b, 0, none⟩)) ∧ W.cell? ⟨G, 1, none⟩ = some (.slice ag ng cg) ∧ W.cell? ⟨G, 2, none⟩ = some (.int .i64 (n : Int))) := fun W hW => by
        have h := HC.out W (HWD0.out.trans (hW.mono HWD0.out.size))
        exact ⟨h.1, h.2.1, h.2.2.1⟩
      have HS4 : Hid (∀ W, Below wr.drew.heap.size wr.drew W → ∀ u : Value, (W.setCell ⟨O, k, none⟩ u).cell? ⟨G, 0, none⟩ = some (.pointer (some ⟨b, 0, none⟩)) ∧ (W.setCell ⟨O, k, none⟩ u).cell? ⟨G, 1, none⟩ = some (.slice ag ng cg) ∧ (W.setCell ⟨O, k, none⟩ u).cell? ⟨G, 2, none⟩ = some (.int .i64 (n : Int))) := fun W hW u => by
        have hw := (HWD0.out.trans (hW.mono HWD0.out.size)).setCell (p := ⟨O, k, none⟩) (by show W0.heap.size ≤ O; have := HOE.out; omega) u
        have h := HC.out _ hw
        exact ⟨h.1, h.2.1, h.2.2.1⟩
      have HAD : Hid (∀ W, Below wr.drew.heap.size wr.drew W → ArrI W O 3 nn (fll F (fun _ => 0) k)) := fun W hW => HAD0.out.below hW (by exact HAD0.out.lt)
      have HFIN : Hid (∀ W, Below wr.drew.heap.size wr.drew W → ArrI (W.setCell ⟨O, k, none⟩ (.int .i64 (F k))) O 3 nn (fll F (fun _ => 0) (k + 1)) ∧ Below W0.heap.size W0 (W.setCell ⟨O, k, none⟩ (.int .i64 (F k)))) := fun W hW => ⟨(HAD.out W hW).next, (HWD0.out.trans (hW.mono HWD0.out.size)).setCell (p := ⟨O, k, none⟩) (by show W0.heap.size ≤ O; have := HOE.out; omega) _⟩
      have HBT : Hid (∀ W (j : Nat), Below wr.drew.heap.size wr.drew W → Calls Tryz.prog 154 #[.agg #[.pointer (some ⟨b, 0, none⟩), .slice ag ng cg, .int .i64 (n : Int)], .slice ax n cx, .slice ay n cy, .int .i64 (k : Int)] W fun e w' => ∃ O, e = .returned (.slice (some ⟨O, 0, none⟩) n n) ∧ W.heap.size ≤ O ∧ ArrI w' O 3 n (zat (onl p x y (k : Int))) ∧ Below W.heap.size W w') := fun W _ hW => HBT0.out W k (by omega) (HWD0.out.trans (hW.mono HWD0.out.size))
      have HEX : Hid (∀ W P (j : Nat), k < nn → Below wr.drew.heap.size wr.drew W → ArrI W P 3 n (zat (onl p x y (k : Int))) → Calls Tryz.prog 93 #[.pointer (some ⟨b, 0, none⟩), .slice ab nt cb, .slice (some ⟨P, 0, none⟩) n n] W fun e w' => e = .returned (.int .i64 (F k)) ∧ Below W.heap.size W w') := fun W P _ hk hW hA => HEX0.out W P k hk (HWD0.out.trans (hW.mono HWD0.out.size)) hA
      clear hI HAD0
      go_wp2_with fail
      refine wp_region_held_drew (S := fun W => (W.cell? ⟨G, 0, none⟩ = some (.pointer (some ⟨b, 0, none⟩)) ∧ W.cell? ⟨G, 1, none⟩ = some (.slice ag ng cg) ∧ W.cell? ⟨G, 2, none⟩ = some (.int .i64 (n : Int)))) (by kernel_rfl) (HSB.out _ (Below.refl _ _)) (fun hHeld => ?_)
      generalize wr.drew = WD at *
      refine wpAnyH_takeU (i := 0) (v := .slice (some ⟨O, 0, none⟩) nn nn) rfl (by kernel_rfl) (by kernel_rfl) (by kernel_rfl) (fun _ _ _ h => h) (by rfl) (fun W hC => by go_simp) hHeld ?_
      simp only [Act.put, List.setIfInBounds_toArray, List.set_cons_zero, List.set_cons_succ]
      refine wpAnyH_takeU (i := 1) (v := .int .i64 (k : Int)) rfl (by kernel_rfl) (by kernel_rfl) (by kernel_rfl) (fun _ _ _ h => h) (by rfl) (fun W hC => by go_simp) hHeld ?_
      simp only [Act.put, List.setIfInBounds_toArray, List.set_cons_zero, List.set_cons_succ]
      refine wpAnyH_takeU (i := 2) (v := .pointer (some ⟨G, 0, none⟩)) rfl (by kernel_rfl) (by kernel_rfl) (by kernel_rfl) (fun _ _ _ h => h) (by rfl) (fun W hC => by go_simp) hHeld ?_
      simp only [Act.put, List.setIfInBounds_toArray, List.set_cons_zero, List.set_cons_succ]
      refine wpAnyH_takeU (i := 3) (v := .pointer (some ⟨b, 0, none⟩)) rfl (by kernel_rfl) (by kernel_rfl) (by kernel_rfl) (fun _ _ _ h => h) (by rfl) (fun W hC => by (obtain ⟨x1, x2, x3⟩ := hC); go_simp) hHeld ?_
      simp only [Act.put, List.setIfInBounds_toArray, List.set_cons_zero, List.set_cons_succ]
      refine wpAnyH_takeU (i := 4) (v := .slice ab nt cb) rfl (by kernel_rfl) (by kernel_rfl) (by kernel_rfl) (fun _ _ _ h => h) (by rfl) (fun W hC => by go_simp) hHeld ?_
      simp only [Act.put, List.setIfInBounds_toArray, List.set_cons_zero, List.set_cons_succ]
      refine wpAnyH_takeU (i := 5) (v := .agg #[.pointer (some ⟨b, 0, none⟩), .slice ag ng cg, .int .i64 (n : Int)]) rfl (by kernel_rfl) (by kernel_rfl) (by kernel_rfl) (fun _ _ _ h => h) (by rfl) (fun W hC => by (obtain ⟨x1, x2, x3⟩ := hC); go_simp) hHeld ?_
      simp only [Act.put, List.setIfInBounds_toArray, List.set_cons_zero, List.set_cons_succ]
      refine wpAnyH_takeU (i := 6) (v := .slice ax n cx) rfl (by kernel_rfl) (by kernel_rfl) (by kernel_rfl) (fun _ _ _ h => h) (by rfl) (fun W hC => by go_simp) hHeld ?_
      simp only [Act.put, List.setIfInBounds_toArray, List.set_cons_zero, List.set_cons_succ]
      refine wpAnyH_takeU (i := 7) (v := .slice ay n cy) rfl (by kernel_rfl) (by kernel_rfl) (by kernel_rfl) (fun _ _ _ h => h) (by rfl) (fun W hC => by go_simp) hHeld ?_
      simp only [Act.put, List.setIfInBounds_toArray, List.set_cons_zero, List.set_cons_succ]
      refine wpAnyH_takeU (i := 8) (v := .int .i64 (k : Int)) rfl (by kernel_rfl) (by kernel_rfl) (by kernel_rfl) (fun _ _ _ h => h) (by rfl) (fun W hC => by go_simp) hHeld ?_
      simp only [Act.put, List.setIfInBounds_toArray, List.set_cons_zero, List.set_cons_succ]
      refine wpAnyH_ready (rs := [9]) (by kernel_rfl) (by simp) ?_
      refine AllReadyH.consU rfl (fun K' hK' => ?_) AllReadyH.nil
      go_simp
      refine (HBT.out _ k (Below.refl _ _)).mono ?_
      rintro e w3 ⟨P3, rfl, hP3, hA3, hb3⟩
      have HEX3 := hid (HEX.out w3 P3 k hlt hb3 hA3)
      clear hA3
      refine hK'.out _ _ (HSB.out _ hb3) (fun hHeld => ?_)
      clear hK' K'
      refine wpAnyH_ready (rs := [10]) (by kernel_rfl) (by simp) ?_
      refine AllReadyH.consU rfl (fun K' hK' => ?_) AllReadyH.nil
      go_simp
      refine (HEX3.out).mono ?_
      rintro e w4 ⟨rfl, hb4⟩
      have HB4 : Hid (Below WD.heap.size WD w4) := hb3.trans (hb4.mono hb3.size)
      have HAB := hid (HAD.out w4 HB4.out)
      have c1 := HAB.out.cell hlt
      have y1 := HAB.out.frozen k
      generalize fll F (fun _ => 0) k k = y0 at *
      clear hb3 hb4
      refine hK'.out _ _ (HSB.out _ HB4.out) (fun hHeld => ?_)
      clear hK' K'
      refine wpAnyH_takeU (i := 11) (v := .pointer (some ⟨O, k, none⟩)) rfl (by kernel_rfl) (by kernel_rfl) (by kernel_rfl) (fun _ _ _ h => h) (by rfl) (fun W hC => by go_simp) hHeld ?_
      simp only [Act.put, List.setIfInBounds_toArray, List.set_cons_zero, List.set_cons_succ]
      refine wpAnyH_ready (rs := [12]) (by kernel_rfl) (by simp) ?_
      refine AllReadyH.consU rfl (fun K' hK' => ?_) AllReadyH.nil
      go_simp
      refine hK'.out _ _ (HS4.out _ HB4.out _) (fun hHeld => ?_)
      clear hK' K'
      refine wpAnyH_done (by kernel_rfl) ?_ _
      have HE4 := hid (HFIN.out w4 HB4.out)
      clear HAB HAD HFIN c1 y1
      go_wp2_with fail
      go_roundw
      case rel => exact ⟨k + 1, by omega, by go_num, HE4.out⟩
      case measure => simp [intOf]; omega
    · obtain rfl : nn = k := by omega
      have hlt2 : ¬ (nn : Int) < (nn : Int) := by omega
      have HE : Hid (ArrI wr O 3 nn F ∧ Below w.heap.size w wr) := ⟨hI.out.1.congr (fun j hj => fll_all hj), HBW.out _ hI.out.2⟩
      clear hI
      go_wp2_with fail
      go_ret
      exact ⟨O, rfl, HOW.out, HE.out⟩

set_option maxRecDepth 100000 in
set_option maxHeartbeats 4000000 in
theorem gtround_any (p b n cg cb cz cx : Nat) (ag ab az ax : Option Addr) (gs : List GatZ) (t z xs : List Int) (w : World) (hIT : InT p b w) (hn : n ≤ 6) (ht : t.length = 2 ^ n) (hgl : gs.length ≤ 64) (hg : LstG w.heap.size w ag cg gs) (ho : ∀ k, k < gs.length → 0 ≤ (gat gs k).a ∧ 0 ≤ (gat gs k).b) (hz : z.length ≤ 60) (hx : xs.length + 1 ≤ 2 * n) (ft : Fits t) (fz : Fits z) (fx : Fits xs) (lt : Lst w.heap.size w ab cb t) (rz : RowB w.heap.size w az z) (lx : Lst w.heap.size w ax cx xs) :
    Calls Tryz.prog 151 #[.agg #[.pointer (some ⟨b, 0, none⟩), .slice ag gs.length cg, .int .i64 (n : Int)], .slice ab t.length cb, .slice az z.length cz, .slice ax xs.length cx] w fun e w' => ∃ O, e = .returned (.slice (some ⟨O, 0, none⟩) 3 3) ∧ w.heap.size ≤ O ∧ ArrI w' O 3 3 (zat (tld p gs t n z xs)) ∧ Below w.heap.size w w' := by
  have hp := hIT.cell
  obtain ⟨ng, hng⟩ : ∃ ng, ng = gs.length := ⟨_, rfl⟩
  rw [← hng]
  obtain ⟨W0, hW0⟩ : ∃ W0, W0 = w.alloc (.cells #[.pointer (some ⟨b, 0, none⟩), .slice ag ng cg, .int .i64 (n : Int)] 149) := ⟨_, rfl⟩
  obtain ⟨hb0, hs0, hz0⟩ := own_blk hW0
  obtain ⟨G, hG⟩ : ∃ G, G = w.heap.size := ⟨_, rfl⟩
  rw [← hG] at hs0
  have HGE := hid hG
  have HB0 := hid hb0
  have HGL : Hid (G < W0.heap.size) := by unfold Hid; omega
  have HC : Hid (∀ W, Below W0.heap.size W0 W → W.cell? ⟨G, 0, none⟩ = some (.pointer (some ⟨b, 0, none⟩)) ∧ W.cell? ⟨G, 1, none⟩ = some (.slice ag ng cg) ∧ W.cell? ⟨G, 2, none⟩ = some (.int .i64 (n : Int)) ∧ W.cell? ⟨b, 0, none⟩ = some (.int .i64 p)) := fun W hW => by
    have e := (hW.block G HGL.out).trans hs0
    have hb := HB0.out.trans (hW.mono HB0.out.size)
    exact ⟨by simp [World.cell?, e], by simp [World.cell?, e], by simp [World.cell?, e], (hb.cell (p := ⟨b, 0, none⟩) (heap_lt hp)).trans hp⟩
  obtain ⟨O, hO⟩ : ∃ O, O = w.heap.size + 1 := ⟨_, rfl⟩
  have HOE : Hid (O = W0.heap.size) := by unfold Hid; omega
  have HOW : Hid (w.heap.size ≤ O) := by unfold Hid; omega
  have HBW : Hid (∀ W, Below W0.heap.size W0 W → Below w.heap.size w W) := fun W hW => HB0.out.trans (hW.mono HB0.out.size)
  obtain ⟨F, hF⟩ : ∃ F : Nat → Int, F = zat (tld p gs t n z xs) := ⟨_, rfl⟩
  obtain ⟨nt, hnt⟩ : ∃ nt, nt = t.length := ⟨_, rfl⟩
  obtain ⟨nz, hnz⟩ : ∃ nz, nz = z.length := ⟨_, rfl⟩
  obtain ⟨nx, hnx⟩ : ∃ nx, nx = xs.length := ⟨_, rfl⟩
  have HFE : Hid (∀ k : Nat, k < 3 → ptz p gs t n z (xs ++ [(k : Int)]) = F k) := fun k hk => by
    rw [hF]
    unfold tld
    rw [ls_at _ _ _ hk]
  have HPT0 : Hid (∀ W a c (k : Nat), k < 3 → Below W0.heap.size W0 W → Lst W.heap.size W a c (xs ++ [(k : Int)]) → Calls Tryz.prog 206 #[.agg #[.pointer (some ⟨b, 0, none⟩), .slice ag ng cg, .int .i64 (n : Int)], .slice ab nt cb, .slice az nz cz, .slice a (xs ++ [(k : Int)]).length c] W fun e w' => e = .returned (.int .i64 (F k)) ∧ Below W.heap.size W w') := fun W a c k hk hW hl => by
    have hw := HBW.out W hW
    have h := part_any p b n cg cb cz c ag ab az a gs t z (xs ++ [(k : Int)]) W (hIT.below hw) hn ht hgl (hg.step hw) ho hz (by rw [List.length_append]; exact hx) ft fz (fits_append fx (fits_one ⟨by omega, by omega⟩)) ((lt.below hw).mono hw.size) ((rz.below hw).mono hw.size) hl
    rw [← hng, ← hnt, ← hnz] at h
    rw [← HFE.out k hk]
    exact h
  have HLX : Hid (∀ W, Below W0.heap.size W0 W → Lst W.heap.size W ax cx xs) := fun W hW => (lx.below (HBW.out W hW)).mono (HBW.out W hW).size
  have hmk2 := fun w => run_make_row' (P := Tryz.prog) 23 3 (.int .i64 0) 8 Tryz.underlying23 Tryz.infoInt rfl .i64 .i64 3 (by omega) (by omega) w
  simp only [show ((3 : Nat) : Int) = 3 from rfl] at hmk2
  have HNX : Hid (nx = xs.length ∧ xs.length ≤ 12) := ⟨hnx, by omega⟩
  rw [← hF, ← hnt, ← hnz, ← hnx]
  clear hp ft fz fx lt rz lx hF hnx hnz hnt hng hs0 hb0 hz0 hG hIT ht hx hz hg ho hgl
  go_enter Tryz.func151, Tryz.ntmps151
  go_wp2_with fail
  rw [← hO, ← HGE.out, ← hW0]
  clear hW0 hO
  go_loopw [10, 14] (fun _ iv wr => ∃ k : Nat, k ≤ 3 ∧ iv = .int .i64 (k : Int) ∧ Hid (ArrI wr O 3 3 (fll F (fun _ => 0) k) ∧ Below W0.heap.size W0 wr)) (fun _ iv _ => 3 - (intOf iv).toNat)
  case atStart => exact ⟨0, by omega, rfl, by rw [fll_zero, HOE.out]; exact World.rowIs_made _ _ _ _, (Below.refl _ _).alloc (Nat.le_refl _) _⟩
  case round =>
    obtain ⟨k, hk, rfl, hI⟩ := hrel
    by_cases hlt : k < 3
    · have hlt2 : (k : Int) < 3 := by omega
      have hks : IntKind.i64.wrap ((k : Int) + 1) = (k : Int) + 1 := by rw [IntKind.wrap_i64]; omega
      have HWD0 : Hid (Below W0.heap.size W0 wr.drew) := hI.out.2.drew
      have HAD0 : Hid (ArrI wr.drew O 3 3 (fll F (fun _ => 0) k)) := hI.out.1.below ((Below.refl _ _).drew (w := wr)) (by exact hI.out.1.lt)
      have HSB : Hid (∀ W, Below wr.drew.heap.size wr.drew W → W.cell? ⟨G, 0, none⟩ = some (.pointer (some ⟨b, 0, none⟩)) ∧ W.cell? ⟨G, 1, none⟩ = some (.slice ag ng cg) ∧ W.cell? ⟨G, 2, none⟩ = some (.int .i64 (n : Int))) := fun W hW => by
        have h := HC.out W (HWD0.out.trans (hW.mono HWD0.out.size))
        exact ⟨h.1, h.2.1, h.2.2.1⟩
      have HS4 : Hid (∀ W, Below wr.drew.heap.size wr.drew W → ∀ u : Value, (W.setCell ⟨O, k, none⟩ u).cell? ⟨G, 0, none⟩ = some (.pointer (some ⟨b, 0, none⟩)) ∧ (W.setCell ⟨O, k, none⟩ u).cell? ⟨G, 1, none⟩ = some (.slice ag ng cg) ∧ (W.setCell ⟨O, k, none⟩ u).cell? ⟨G, 2, none⟩ = some (.int .i64 (n : Int))) := fun W hW u => by
        have hw := (HWD0.out.trans (hW.mono HWD0.out.size)).setCell (p := ⟨O, k, none⟩) (by show W0.heap.size ≤ O; have := HOE.out; omega) u
        have h := HC.out _ hw
        exact ⟨h.1, h.2.1, h.2.2.1⟩
      have HAD : Hid (∀ W, Below wr.drew.heap.size wr.drew W → ArrI W O 3 3 (fll F (fun _ => 0) k)) := fun W hW => HAD0.out.below hW (by exact HAD0.out.lt)
      have HFIN : Hid (∀ W, Below wr.drew.heap.size wr.drew W → ArrI (W.setCell ⟨O, k, none⟩ (.int .i64 (F k))) O 3 3 (fll F (fun _ => 0) (k + 1)) ∧ Below W0.heap.size W0 (W.setCell ⟨O, k, none⟩ (.int .i64 (F k)))) := fun W hW => ⟨(HAD.out W hW).next, (HWD0.out.trans (hW.mono HWD0.out.size)).setCell (p := ⟨O, k, none⟩) (by show W0.heap.size ≤ O; have := HOE.out; omega) _⟩
      have HPT : Hid (∀ W a c (j : Nat), Below wr.drew.heap.size wr.drew W → Lst W.heap.size W a c ([xs, [(k : Int)]].flatten) → Calls Tryz.prog 206 #[.agg #[.pointer (some ⟨b, 0, none⟩), .slice ag ng cg, .int .i64 (n : Int)], .slice ab nt cb, .slice az nz cz, .slice a ([xs, [(k : Int)]].flatten).length c] W fun e w' => e = .returned (.int .i64 (F k)) ∧ Below W.heap.size W w') := fun W a c _ hW hl => by
        rw [show [xs, [(k : Int)]].flatten = xs ++ [(k : Int)] from by simp] at hl ⊢
        exact HPT0.out W a c k hlt (HWD0.out.trans (hW.mono HWD0.out.size)) hl
      have HLXD := hid (HLX.out wr.drew HWD0.out)
      clear hI HAD0
      go_wp2_with fail
      refine wp_region_held_drew (S := fun W => (W.cell? ⟨G, 0, none⟩ = some (.pointer (some ⟨b, 0, none⟩)) ∧ W.cell? ⟨G, 1, none⟩ = some (.slice ag ng cg) ∧ W.cell? ⟨G, 2, none⟩ = some (.int .i64 (n : Int)))) (by kernel_rfl) (HSB.out _ (Below.refl _ _)) (fun hHeld => ?_)
      generalize wr.drew = WD at *
      have HWA : Hid (Below WD.heap.size WD (WD.alloc (.cells #[.int .i64 (k : Int)] 3)) ∧ Below WD.heap.size WD ((WD.alloc (.cells #[.int .i64 (k : Int)] 3)).alloc (.cells #[.slice ax nx cx, .slice (some ⟨WD.heap.size, 0, none⟩) 1 1] 23))) := ⟨(Below.refl _ _).alloc (Nat.le_refl _) _, ((Below.refl _ _).alloc (Nat.le_refl _) _).alloc (by simp) _⟩
      have HCT : Hid (Calls Tryz.prog 117 #[.slice (some ⟨WD.heap.size + 1, 0, none⟩) 2 2] ((WD.alloc (.cells #[.int .i64 (k : Int)] 3)).alloc (.cells #[.slice ax nx cx, .slice (some ⟨WD.heap.size, 0, none⟩) 1 1] 23)) fun e w' => ∃ v, e = .returned v ∧ w'.ownsRow ((WD.alloc (.cells #[.int .i64 (k : Int)] 3)).alloc (.cells #[.slice ax nx cx, .slice (some ⟨WD.heap.size, 0, none⟩) 1 1] 23)).heap.size 3 1 v ([xs, [(k : Int)]].flatten).length (([xs, [(k : Int)]].flatten).map (Value.int .i64)) ∧ Below ((WD.alloc (.cells #[.int .i64 (k : Int)] 3)).alloc (.cells #[.slice ax nx cx, .slice (some ⟨WD.heap.size, 0, none⟩) 1 1] 23)).heap.size ((WD.alloc (.cells #[.int .i64 (k : Int)] 3)).alloc (.cells #[.slice ax nx cx, .slice (some ⟨WD.heap.size, 0, none⟩) 1 1] 23)) w') := by
        have h1 := lstR_2 (n0 := (WD.alloc (.cells #[.int .i64 (k : Int)] 3)).heap.size) (w := WD.alloc (.cells #[.int .i64 (k : Int)] 3)) (a := ax) (ca := cx) (x := xs) (b := some ⟨WD.heap.size, 0, none⟩) (cb := 1) (y := [(k : Int)]) ((HLXD.out.below HWA.out.1).mono HWA.out.1.size) (lst_one WD (k : Int)) (Nat.le_refl _)
        rw [← HNX.out.1] at h1
        have h := concat_any 2 (some ⟨(WD.alloc (.cells #[.int .i64 (k : Int)] 3)).heap.size, 0, none⟩) [xs, [(k : Int)]] _ (by simp) (by have := HNX.out.2; simp; omega) (by simp) (h1.mono (by simp))
        rw [show (WD.alloc (.cells #[.int .i64 (k : Int)] 3)).heap.size = WD.heap.size + 1 from by simp] at h
        exact h
      obtain ⟨fk, hfk⟩ : ∃ fk, fk = [xs, [(k : Int)]].flatten := ⟨_, rfl⟩
      rw [← hfk] at HCT HPT
      clear hfk
      refine wpAnyH_takeU (i := 0) (v := .slice (some ⟨O, 0, none⟩) 3 3) rfl (by kernel_rfl) (by kernel_rfl) (by kernel_rfl) (fun _ _ _ h => h) (by rfl) (fun W hC => by go_simp) hHeld ?_
      simp only [Act.put, List.setIfInBounds_toArray, List.set_cons_zero, List.set_cons_succ]
      refine wpAnyH_takeU (i := 1) (v := .int .i64 (k : Int)) rfl (by kernel_rfl) (by kernel_rfl) (by kernel_rfl) (fun _ _ _ h => h) (by rfl) (fun W hC => by go_simp) hHeld ?_
      simp only [Act.put, List.setIfInBounds_toArray, List.set_cons_zero, List.set_cons_succ]
      refine wpAnyH_takeU (i := 2) (v := .agg #[.pointer (some ⟨b, 0, none⟩), .slice ag ng cg, .int .i64 (n : Int)]) rfl (by kernel_rfl) (by kernel_rfl) (by kernel_rfl) (fun _ _ _ h => h) (by rfl) (fun W hC => by (obtain ⟨x1, x2, x3⟩ := hC); go_simp) hHeld ?_
      simp only [Act.put, List.setIfInBounds_toArray, List.set_cons_zero, List.set_cons_succ]
      refine wpAnyH_takeU (i := 3) (v := .slice ab nt cb) rfl (by kernel_rfl) (by kernel_rfl) (by kernel_rfl) (fun _ _ _ h => h) (by rfl) (fun W hC => by go_simp) hHeld ?_
      simp only [Act.put, List.setIfInBounds_toArray, List.set_cons_zero, List.set_cons_succ]
      refine wpAnyH_takeU (i := 4) (v := .slice az nz cz) rfl (by kernel_rfl) (by kernel_rfl) (by kernel_rfl) (fun _ _ _ h => h) (by rfl) (fun W hC => by go_simp) hHeld ?_
      simp only [Act.put, List.setIfInBounds_toArray, List.set_cons_zero, List.set_cons_succ]
      refine wpAnyH_takeU (i := 5) (v := .slice ax nx cx) rfl (by kernel_rfl) (by kernel_rfl) (by kernel_rfl) (fun _ _ _ h => h) (by rfl) (fun W hC => by go_simp) hHeld ?_
      simp only [Act.put, List.setIfInBounds_toArray, List.set_cons_zero, List.set_cons_succ]
      refine wpAnyH_takeU (i := 6) (v := .int .i64 (k : Int)) rfl (by kernel_rfl) (by kernel_rfl) (by kernel_rfl) (fun _ _ _ h => h) (by rfl) (fun W hC => by go_simp) hHeld ?_
      simp only [Act.put, List.setIfInBounds_toArray, List.set_cons_zero, List.set_cons_succ]
      refine wpAnyH_ready (rs := [7]) (by kernel_rfl) (by simp) ?_
      refine AllReadyH.consU rfl (fun K' hK' => ?_) AllReadyH.nil
      go_simp
      refine hK'.out _ _ (HSB.out _ HWA.out.1) (fun hHeld => ?_)
      clear hK' K'
      refine wpAnyH_ready (rs := [8]) (by kernel_rfl) (by simp) ?_
      refine AllReadyH.consU rfl (fun K' hK' => ?_) AllReadyH.nil
      go_simp
      refine hK'.out _ _ (HSB.out _ HWA.out.2) (fun hHeld => ?_)
      clear hK' K'
      refine wpAnyH_ready (rs := [9]) (by kernel_rfl) (by simp) ?_
      refine AllReadyH.consU rfl (fun K' hK' => ?_) AllReadyH.nil
      go_simp
      refine (HCT.out).mono ?_
      rintro e w3 ⟨v3, rfl, ho3, hb3⟩
      have HB3 : Hid (Below WD.heap.size WD w3) := HWA.out.2.trans (hb3.mono HWA.out.2.size)
      obtain ⟨a3, c3, rfl, hl3⟩ := lst_of_owns ho3
      have HPX := hid (HPT.out w3 a3 c3 k HB3.out hl3)
      clear ho3 hb3 hl3
      refine hK'.out _ _ (HSB.out _ HB3.out) (fun hHeld => ?_)
      clear hK' K'
      refine wpAnyH_ready (rs := [10]) (by kernel_rfl) (by simp) ?_
      refine AllReadyH.consU rfl (fun K' hK' => ?_) AllReadyH.nil
      go_simp
      refine (HPX.out).mono ?_
      rintro e w4 ⟨rfl, hb4⟩
      have HB4 : Hid (Below WD.heap.size WD w4) := HB3.out.trans (hb4.mono HB3.out.size)
      have HAB := hid (HAD.out w4 HB4.out)
      have c1 := HAB.out.cell hlt
      have y1 := HAB.out.frozen k
      generalize fll F (fun _ => 0) k k = y0 at *
      clear hb4
      refine hK'.out _ _ (HSB.out _ HB4.out) (fun hHeld => ?_)
      clear hK' K'
      refine wpAnyH_takeU (i := 11) (v := .pointer (some ⟨O, k, none⟩)) rfl (by kernel_rfl) (by kernel_rfl) (by kernel_rfl) (fun _ _ _ h => h) (by rfl) (fun W hC => by go_simp) hHeld ?_
      simp only [Act.put, List.setIfInBounds_toArray, List.set_cons_zero, List.set_cons_succ]
      refine wpAnyH_ready (rs := [12]) (by kernel_rfl) (by simp) ?_
      refine AllReadyH.consU rfl (fun K' hK' => ?_) AllReadyH.nil
      go_simp
      refine hK'.out _ _ (HS4.out _ HB4.out _) (fun hHeld => ?_)
      clear hK' K'
      refine wpAnyH_done (by kernel_rfl) ?_ _
      have HE4 := hid (HFIN.out w4 HB4.out)
      clear HAB HAD HFIN c1 y1
      go_wp2_with fail
      go_roundw
      case rel => exact ⟨k + 1, by omega, by go_num, HE4.out⟩
      case measure => simp [intOf]; omega
    · obtain rfl : k = 3 := by omega
      have hlt2 : ¬ (3 : Int) < (3 : Int) := by omega
      have HE : Hid (ArrI wr O 3 3 F ∧ Below w.heap.size w wr) := ⟨hI.out.1.congr (fun j hj => fll_all hj), HBW.out _ hI.out.2⟩
      clear hI
      go_wp2_with fail
      go_ret
      exact ⟨O, rfl, HOW.out, HE.out⟩

end Go.Proofs.YtpgnabmkfkcogaaGreatDoor

namespace Go.Proofs.YtpgnabmkfkcogaaGreatDoor
open Go.RowKit

theorem ptz_bounds {p n : Nat} (h3 : 3 ≤ p) (gs : List GatZ) (t z xs : List Int) : 0 ≤ ptz p gs t n z xs ∧ ptz p gs t n z xs < p := emod_bounds _ p h3
theorem eq_of_dvd {p : Nat} {a b : Int} (ha : 0 ≤ a ∧ a < p) (hb : 0 ≤ b ∧ b < p) (h : (p : Int) ∣ a - b) : a = b := by
  obtain ⟨c, hc⟩ := h
  have : c = 0 := by
    rcases Int.lt_trichotomy c 0 with h | h | h
    · have : (p : Int) * c ≤ (p : Int) * (-1) := Int.mul_le_mul_of_nonneg_left (by omega) (by omega)
      omega
    · exact h
    · have : (p : Int) * 1 ≤ (p : Int) * c := Int.mul_le_mul_of_nonneg_left (by omega) (by omega)
      omega
  rw [this, Int.mul_zero] at hc
  omega
end Go.Proofs.YtpgnabmkfkcogaaGreatDoor
