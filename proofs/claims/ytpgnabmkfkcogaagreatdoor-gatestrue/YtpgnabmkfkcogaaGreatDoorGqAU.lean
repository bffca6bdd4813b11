/- Package gates, on the way down: ends. Package sums: every, areTables, isShown. -/
import Derived.Test.YtpgnabmkfkcogaaGreatDoorGuB
import Derived.Test.YtpgnabmkfkcogaaGreatDoorGqAK
import Derived.Test.YtpgnabmkfkcogaaGreatDoorSpgs
namespace Go.Proofs.YtpgnabmkfkcogaaGreatDoor
open Go.RowKit

/-- what ends reckons, kind by kind -/
def enp (q : Nat) (f : Nat → Int) : Nat → Int
  | 0 => 0
  | k + 1 => (enp q f k + f k) % (q : Int)
theorem enp_two {q : Nat} (f : Nat → Int) : enp q f 2 = (f 0 + f 1) % (q : Int) := by
  show (((0 + f 0) % (q : Int)) + f 1) % (q : Int) = _
  rw [Int.zero_add, Int.emod_add_emod]
def enf (q : Nat) (gs : List GatZ) (z x y line : List Int) (m : Nat) (k : Nat) : Int := wrz q gs (k : Int) z x y * jnz q (k : Int) (zat line 0) (zat line (min 1 m)) % (q : Int)
theorem enz_eq (q : Nat) (gs : List GatZ) (z x y line : List Int) (m : Nat) : enp q (enf q gs z x y line m) 2 = enz q gs z x y line m := enp_two _

set_option maxRecDepth 100000 in
set_option maxHeartbeats 4000000 in
theorem ends_any (p b m cg cz cx cy cl : Nat) (ag az ax ay al : Option Addr) (gs : List GatZ) (z x y line : List Int) (w : World) (h3 : 3 ≤ p) (hm31 : p ≤ 2147483647) (hp : w.cell? ⟨b, 0, none⟩ = some (.int .i64 p)) (hn : gs.length ≤ 64) (hg : LstG w.heap.size w ag cg gs) (ho : ∀ k, k < gs.length → 0 ≤ (gat gs k).a ∧ 0 ≤ (gat gs k).b) (hz : z.length ≤ 60) (hx : x.length ≤ 60) (hy : y.length ≤ 60) (fz : Fits z) (fx : Fits x) (fy : Fits y) (fl : Fits line) (rz : RowB w.heap.size w az z) (rx : RowB w.heap.size w ax x) (ry : RowB w.heap.size w ay y) (rl : RowB w.heap.size w al line) (hll : line.length = m + 1) (hm6 : m ≤ 60) :
    Calls Tryz.prog 163 #[.agg #[.pointer (some ⟨b, 0, none⟩), .slice ag gs.length cg, .int .i64 (m : Int)], .slice az z.length cz, .slice ax x.length cx, .slice ay y.length cy, .slice al line.length cl] w fun e w' => e = .returned (.int .i64 (enz p gs z x y line m)) ∧ Below w.heap.size w w' := by
  obtain ⟨W0, hW0⟩ : ∃ W0, W0 = w.alloc (.cells #[.pointer (some ⟨b, 0, none⟩), .slice ag gs.length cg, .int .i64 (m : Int)] 149) := ⟨_, rfl⟩
  obtain ⟨hb0, hs0, hz0⟩ := own_blk hW0
  obtain ⟨G, hG⟩ : ∃ G, G = w.heap.size := ⟨_, rfl⟩
  rw [← hG] at hs0
  have HGE := hid hG
  have HB0 := hid hb0
  have HGL : Hid (G < W0.heap.size) := by unfold Hid; omega
  have HC : Hid (∀ W, Below W0.heap.size W0 W → W.cell? ⟨G, 0, none⟩ = some (.pointer (some ⟨b, 0, none⟩)) ∧ W.cell? ⟨G, 1, none⟩ = some (.slice ag gs.length cg) ∧ W.cell? ⟨G, 2, none⟩ = some (.int .i64 (m : Int)) ∧ W.cell? ⟨b, 0, none⟩ = some (.int .i64 p)) := fun W hW => by
    have e := (hW.block G HGL.out).trans hs0
    have hb := HB0.out.trans (hW.mono HB0.out.size)
    exact ⟨by simp [World.cell?, e], by simp [World.cell?, e], by simp [World.cell?, e], (hb.cell (p := ⟨b, 0, none⟩) (heap_lt hp)).trans hp⟩
  obtain ⟨bl, ol, rfl, hbl, hxa⟩ := rl 0 (by omega)
  obtain ⟨bl2, ol2, e2, _, hxb⟩ := rl (min 1 m) (by omega)
  cases e2
  rw [Nat.add_zero] at hxa
  obtain ⟨mm, hmm⟩ : ∃ mm, mm = min 1 m := ⟨_, rfl⟩
  obtain ⟨F, hF⟩ : ∃ F, F = enf p gs z x y line m := ⟨_, rfl⟩
  obtain ⟨P, hP⟩ : ∃ P, P = enp p F := ⟨_, rfl⟩
  have HPE : Hid (enz p gs z x y line m = P 2) := by unfold Hid; rw [hP, hF, enz_eq]
  have HP0 : Hid (P 0 = 0) := by unfold Hid; rw [hP]; rfl
  have HPS : Hid (∀ k, P (k + 1) = (P k + F k) % (p : Int)) := fun k => by rw [hP]; rfl
  have HPB : Hid (∀ k, k ≤ 2 → i64B (P k)) := fun k _ => by
    rcases k with _ | k
    · rw [HP0.out]; exact ⟨by omega, by omega⟩
    · rw [HPS.out]
      have := emod_bounds (P k + F k) p h3
      exact ⟨by omega, by omega⟩
  rw [HPE.out]
  have HFB : Hid (∀ k, i64B (F k)) := fun k => by
    rw [hF]
    have := emod_bounds (wrz p gs (k : Int) z x y * jnz p (k : Int) (zat line 0) (zat line (min 1 m))) p h3
    exact ⟨by unfold enf; omega, by unfold enf; omega⟩
  have HBW : Hid (∀ W, Below W0.heap.size W0 W → Below w.heap.size w W) := fun W hW => HB0.out.trans (hW.mono HB0.out.size)
  obtain ⟨A, hA⟩ : ∃ A, A = zat line 0 := ⟨_, rfl⟩
  obtain ⟨B, hB⟩ : ∃ B, B = zat line mm := ⟨_, rfl⟩
  have hbA : i64B A := by rw [hA]; exact fl.all 0
  have hbB : i64B B := by rw [hB]; exact fl.all _
  have HWI0 : Hid (∀ (W : World) (k : Nat), k < 2 → Below W0.heap.size W0 W → Calls Tryz.prog 215 #[.agg #[.pointer (some ⟨b, 0, none⟩), .slice ag gs.length cg, .int .i64 (m : Int)], .int .i64 (k : Int), .slice az z.length cz, .slice ax x.length cx, .slice ay y.length cy] W fun e w' => e = .returned (.int .i64 (wrz p gs (k : Int) z x y)) ∧ Below W.heap.size W w') := fun W k _ hW => by
    have hb := HBW.out W hW
    exact wire_any p b cg cz cx cy _ (k : Int) ag az ax ay gs z x y W h3 hm31 (HC.out W hW).2.2.2 hn (hg.step hb) ho hz hx hy fz fx fy ((rz.below hb).mono hb.size) ((rx.below hb).mono hb.size) ((ry.below hb).mono hb.size)
  have HJO0 : Hid (∀ (W : World) (k : Nat), k < 2 → Below W0.heap.size W0 W → Calls Tryz.prog 212 #[.agg #[.pointer (some ⟨b, 0, none⟩), .slice ag gs.length cg, .int .i64 (m : Int)], .int .i64 (k : Int), .int .i64 A, .int .i64 B] W fun e w' => e = .returned (.int .i64 (jnz p (k : Int) A B)) ∧ Below W.heap.size W w') := fun W k _ hW => gjoined_any p b _ _ (k : Int) A B W h3 hm31 (HC.out W hW).2.2.2 hbA.1 hbA.2 hbB.1 hbB.2
  have HWB : Hid (∀ k : Nat, 0 ≤ wrz p gs (k : Int) z x y ∧ wrz p gs (k : Int) z x y < p) := fun k => emod_bounds _ p h3
  have HJB : Hid (∀ k : Nat, 0 ≤ jnz p (k : Int) A B ∧ jnz p (k : Int) A B < p) := fun k => jnz_bounds p _ _ _ h3
  have HMU0 : Hid (∀ (W : World) (k : Nat), Below W0.heap.size W0 W → Calls Tryz.prog 121 #[.pointer (some ⟨b, 0, none⟩), .int .i64 (wrz p gs (k : Int) z x y), .int .i64 (jnz p (k : Int) A B)] W fun e w' => e = .returned (.int .i64 (F k)) ∧ w' = W) := fun W k hW => by
    have h1 := HWB.out k
    have h2 := HJB.out k
    have h := mul_any p b (wrz p gs (k : Int) z x y) (jnz p (k : Int) A B) W h3 hm31 (HC.out W hW).2.2.2 (by omega) (by omega) (by omega) (by omega)
    rw [hF]
    rw [hA, hB, hmm] at h ⊢
    exact h
  have HAD0 : Hid (∀ (W : World) (k : Nat) (s : Int), Below W0.heap.size W0 W → s = P k → Calls Tryz.prog 120 #[.pointer (some ⟨b, 0, none⟩), .int .i64 s, .int .i64 (F k)] W fun e w' => e = .returned (.int .i64 (P (k + 1))) ∧ w' = W) := fun W k s hW hs => by
    have h1 : i64B (P k) := by
      rcases k with _ | k
      · rw [HP0.out]; exact ⟨by omega, by omega⟩
      · rw [HPS.out]
        have := emod_bounds (P k + F k) p h3
        exact ⟨by omega, by omega⟩
    have h2 := HFB.out k
    have h := add_any p b (P k) (F k) W h3 hm31 (HC.out W hW).2.2.2 h1.1 h1.2 h2.1 h2.2
    rw [hs, HPS.out]
    exact h
  have hcl : W0.cell? ⟨bl, ol, none⟩ = some (.int .i64 A) := by rw [hA]; exact (HB0.out.cell (p := ⟨bl, ol, none⟩) hbl).trans hxa
  have hcm : W0.cell? ⟨bl, ol + mm, none⟩ = some (.int .i64 B) := by rw [hB, hmm]; exact (HB0.out.cell (p := ⟨bl, ol + min 1 m, none⟩) hbl).trans hxb
  have hbl0 : bl < W0.heap.size := by have := HB0.out.size; omega
  obtain ⟨ng, hng⟩ : ∃ ng, ng = gs.length := ⟨_, rfl⟩
  rw [← hng] at HWI0 HJO0 HC ⊢
  have HSB2 : Hid (∀ W, Below W0.heap.size W0 W → W.cell? ⟨G, 0, none⟩ = some (.pointer (some ⟨b, 0, none⟩)) ∧ W.cell? ⟨G, 1, none⟩ = some (.slice ag ng cg) ∧ W.cell? ⟨G, 2, none⟩ = some (.int .i64 (m : Int))) := fun W hW => ⟨(HC.out W hW).1, (HC.out W hW).2.1, (HC.out W hW).2.2.1⟩
  have HSB : Hid (∀ W, Below W0.heap.size W0 W → (W.cell? ⟨G, 0, none⟩ = some (.pointer (some ⟨b, 0, none⟩)) ∧ W.cell? ⟨G, 1, none⟩ = some (.slice ag ng cg) ∧ W.cell? ⟨G, 2, none⟩ = some (.int .i64 (m : Int))) ∧ W.cell? ⟨bl, ol, none⟩ = some (.int .i64 A) ∧ W.cell? ⟨bl, ol + mm, none⟩ = some (.int .i64 B)) := fun W hW => ⟨HSB2.out W hW, (hW.cell (p := ⟨bl, ol, none⟩) hbl0).trans hcl, (hW.cell (p := ⟨bl, ol + mm, none⟩) hbl0).trans hcm⟩
  have HBD : Hid (Below W0.heap.size W0 W0.drew) := (Below.refl _ _).drew
  have HMI : Hid (min (1 : Int) (m : Int) = (mm : Int)) := by unfold Hid; rw [hmm]; omega
  have hmml : mm < line.length := by omega
  have hmz : (0 : Int) ≤ (mm : Int) := by omega
  obtain ⟨nl, hnl⟩ : ∃ nl, nl = line.length := ⟨_, rfl⟩
  rw [← hnl] at hll hmml ⊢
  have hnl0 : ¬ nl = 0 := by omega
  have hnlm : (mm : Int) < (nl : Int) := by omega
  obtain ⟨WZ, hWZ⟩ : ∃ WZ : Nat → Int, WZ = fun k : Nat => wrz p gs (k : Int) z x y := ⟨_, rfl⟩
  obtain ⟨JZ, hJZ⟩ : ∃ JZ : Nat → Int, JZ = fun k : Nat => jnz p (k : Int) A B := ⟨_, rfl⟩
  have HWI1 : Hid (∀ (W : World) (k : Nat), k < 2 → Below W0.heap.size W0 W → Calls Tryz.prog 215 #[.agg #[.pointer (some ⟨b, 0, none⟩), .slice ag ng cg, .int .i64 (m : Int)], .int .i64 (k : Int), .slice az z.length cz, .slice ax x.length cx, .slice ay y.length cy] W fun e w' => e = .returned (.int .i64 (WZ k)) ∧ Below W.heap.size W w') := by rw [hWZ]; exact HWI0
  have HJO1 : Hid (∀ (W : World) (k : Nat), k < 2 → Below W0.heap.size W0 W → Calls Tryz.prog 212 #[.agg #[.pointer (some ⟨b, 0, none⟩), .slice ag ng cg, .int .i64 (m : Int)], .int .i64 (k : Int), .int .i64 A, .int .i64 B] W fun e w' => e = .returned (.int .i64 (JZ k)) ∧ Below W.heap.size W w') := by rw [hJZ]; exact HJO0
  have HMU1 : Hid (∀ (W : World) (k : Nat), Below W0.heap.size W0 W → Calls Tryz.prog 121 #[.pointer (some ⟨b, 0, none⟩), .int .i64 (WZ k), .int .i64 (JZ k)] W fun e w' => e = .returned (.int .i64 (F k)) ∧ w' = W) := by rw [hWZ, hJZ]; exact HMU0
  obtain ⟨nz, hnz⟩ : ∃ nz, nz = z.length := ⟨_, rfl⟩
  obtain ⟨nx, hnx⟩ : ∃ nx, nx = x.length := ⟨_, rfl⟩
  obtain ⟨ny, hny⟩ : ∃ ny, ny = y.length := ⟨_, rfl⟩
  rw [← hnz, ← hnx, ← hny] at HWI1 ⊢
  rw [← hng] at hW0
  clear HWI0 HJO0 HMU0 hWZ hJZ HWB HJB HPE HPB HFB hP hF hA hB hmm hbA hbB hcl hcm hbl hbl0 hxa hxb rz rx ry rl hg ho hp fz fx fy fl hnz hnx hny hs0 hb0 hz0 hng hnl hx hy hz hn hG hmml hll
  go_enter Tryz.func163, Tryz.ntmps163
  go_wp2_with fail
  rw [← HGE.out, ← hW0]
  clear hW0
  refine wp_region_held_drew (S := fun W => (W.cell? ⟨G, 0, none⟩ = some (.pointer (some ⟨b, 0, none⟩)) ∧ W.cell? ⟨G, 1, none⟩ = some (.slice ag ng cg) ∧ W.cell? ⟨G, 2, none⟩ = some (.int .i64 (m : Int))) ∧ W.cell? ⟨bl, ol, none⟩ = some (.int .i64 A) ∧ W.cell? ⟨bl, ol + mm, none⟩ = some (.int .i64 B)) (by kernel_rfl) (HSB.out _ HBD.out) (fun hHeld => ?_)
  refine wpAnyH_takeU (i := 0) (v := .slice (some ⟨bl, ol, none⟩) nl cl) rfl (by kernel_rfl) (by kernel_rfl) (by kernel_rfl) (fun _ _ _ h => h) (by rfl) (fun W hC => by go_simp) hHeld ?_
  simp only [Act.put, List.setIfInBounds_toArray, List.set_cons_zero, List.set_cons_succ]
  refine wpAnyH_takeU (i := 1) (v := .pointer (some ⟨bl, ol, none⟩)) rfl (by kernel_rfl) (by kernel_rfl) (by kernel_rfl) (fun _ _ _ h => h) (by rfl) (fun W hC => by go_simp) hHeld ?_
  simp only [Act.put, List.setIfInBounds_toArray, List.set_cons_zero, List.set_cons_succ]
  refine wpAnyH_takeU (i := 2) (v := .int .i64 A) rfl (by kernel_rfl) (by kernel_rfl) (by kernel_rfl) (fun _ _ _ h => h) (by rfl) (fun W hC => by (obtain ⟨⟨x1, x2, x3⟩, x4, x5⟩ := hC); go_simp) hHeld ?_
  simp only [Act.put, List.setIfInBounds_toArray, List.set_cons_zero, List.set_cons_succ]
  refine wpAnyH_takeU (i := 3) (v := .slice (some ⟨bl, ol, none⟩) nl cl) rfl (by kernel_rfl) (by kernel_rfl) (by kernel_rfl) (fun _ _ _ h => h) (by rfl) (fun W hC => by go_simp) hHeld ?_
  simp only [Act.put, List.setIfInBounds_toArray, List.set_cons_zero, List.set_cons_succ]
  refine wpAnyH_takeU (i := 4) (v := .pointer (some ⟨G, 2, none⟩)) rfl (by kernel_rfl) (by kernel_rfl) (by kernel_rfl) (fun _ _ _ h => h) (by rfl) (fun W hC => by go_simp) hHeld ?_
  simp only [Act.put, List.setIfInBounds_toArray, List.set_cons_zero, List.set_cons_succ]
  refine wpAnyH_takeU (i := 5) (v := .int .i64 (m : Int)) rfl (by kernel_rfl) (by kernel_rfl) (by kernel_rfl) (fun _ _ _ h => h) (by rfl) (fun W hC => by (obtain ⟨⟨x1, x2, x3⟩, x4, x5⟩ := hC); go_simp) hHeld ?_
  simp only [Act.put, List.setIfInBounds_toArray, List.set_cons_zero, List.set_cons_succ]
  refine wpAnyH_takeU (i := 6) (v := .int .i64 (mm : Int)) rfl (by kernel_rfl) (by kernel_rfl) (by kernel_rfl) (fun _ _ _ h => h) (by rfl) (fun W hC => by rw [← HMI.out]; go_simp) hHeld ?_
  simp only [Act.put, List.setIfInBounds_toArray, List.set_cons_zero, List.set_cons_succ]
  refine wpAnyH_takeU (i := 7) (v := .pointer (some ⟨bl, ol + mm, none⟩)) rfl (by kernel_rfl) (by kernel_rfl) (by kernel_rfl) (fun _ _ _ h => h) (by rfl) (fun W hC => by go_simp) hHeld ?_
  simp only [Act.put, List.setIfInBounds_toArray, List.set_cons_zero, List.set_cons_succ]
  refine wpAnyH_takeU (i := 8) (v := .int .i64 B) rfl (by kernel_rfl) (by kernel_rfl) (by kernel_rfl) (fun _ _ _ h => h) (by rfl) (fun W hC => by (obtain ⟨⟨x1, x2, x3⟩, x4, x5⟩ := hC); go_simp) hHeld ?_
  simp only [Act.put, List.setIfInBounds_toArray, List.set_cons_zero, List.set_cons_succ]
  refine wpAnyH_takeU (i := 9) (v := .int .i64 A) rfl (by kernel_rfl) (by kernel_rfl) (by kernel_rfl) (fun _ _ _ h => h) (by rfl) (fun W hC => by go_simp) hHeld ?_
  simp only [Act.put, List.setIfInBounds_toArray, List.set_cons_zero, List.set_cons_succ]
  refine wpAnyH_takeU (i := 10) (v := .int .i64 B) rfl (by kernel_rfl) (by kernel_rfl) (by kernel_rfl) (fun _ _ _ h => h) (by rfl) (fun W hC => by go_simp) hHeld ?_
  simp only [Act.put, List.setIfInBounds_toArray, List.set_cons_zero, List.set_cons_succ]
  refine wpAnyH_done (by kernel_rfl) ?_ _
  have HBX := HBD
  generalize W0.drew = WX at *
  go_wp2_with fail
  go_loopw [13, 14, 24] (fun sv _ iv wr => ∃ k : Nat, k ≤ 2 ∧ iv = .int .i64 (k : Int) ∧ ∃ s : Int, sv = .int .i64 s ∧ Hid (s = P k) ∧ Hid (Below W0.heap.size W0 wr)) (fun _ _ iv _ => 2 - (intOf iv).toNat)
  case atStart => exact ⟨0, by omega, rfl, 0, rfl, HP0.out.symm, HBX.out⟩
  case round =>
    obtain ⟨k, hk, rfl, s, rfl, hs, hI⟩ := hrel
    by_cases hlt : k < 2
    · have hlt2 : (k : Int) < 2 := by omega
      have hk2 := hlt
      have hks : IntKind.i64.wrap ((k : Int) + 1) = (k : Int) + 1 := by rw [IntKind.wrap_i64]; omega
      have HWI : Hid (∀ (W : World) (k : Nat), k < 2 → Below wr.heap.size wr W → Calls Tryz.prog 215 #[.agg #[.pointer (some ⟨b, 0, none⟩), .slice ag ng cg, .int .i64 (m : Int)], .int .i64 (k : Int), .slice az nz cz, .slice ax nx cx, .slice ay ny cy] W fun e w' => e = .returned (.int .i64 (WZ k)) ∧ Below W.heap.size W w') := fun W k h1 h2 => HWI1.out W k h1 (hI.out.trans (h2.mono hI.out.size))
      have HJO : Hid (∀ (W : World) (k : Nat), k < 2 → Below wr.heap.size wr W → Calls Tryz.prog 212 #[.agg #[.pointer (some ⟨b, 0, none⟩), .slice ag ng cg, .int .i64 (m : Int)], .int .i64 (k : Int), .int .i64 A, .int .i64 B] W fun e w' => e = .returned (.int .i64 (JZ k)) ∧ Below W.heap.size W w') := fun W k h1 h2 => HJO1.out W k h1 (hI.out.trans (h2.mono hI.out.size))
      have HMU : Hid (∀ (W : World) (k : Nat), Below wr.heap.size wr W → Calls Tryz.prog 121 #[.pointer (some ⟨b, 0, none⟩), .int .i64 (WZ k), .int .i64 (JZ k)] W fun e w' => e = .returned (.int .i64 (F k)) ∧ w' = W) := fun W k h2 => HMU1.out W k (hI.out.trans (h2.mono hI.out.size))
      have HAD : Hid (∀ (W : World) (k : Nat) (s : Int), Below wr.heap.size wr W → s = P k → Calls Tryz.prog 120 #[.pointer (some ⟨b, 0, none⟩), .int .i64 s, .int .i64 (F k)] W fun e w' => e = .returned (.int .i64 (P (k + 1))) ∧ w' = W) := fun W k s h2 h3 => HAD0.out W k s (hI.out.trans (h2.mono hI.out.size)) h3
      have HSB3 : Hid (∀ W, Below wr.heap.size wr W → W.cell? ⟨G, 0, none⟩ = some (.pointer (some ⟨b, 0, none⟩)) ∧ W.cell? ⟨G, 1, none⟩ = some (.slice ag ng cg) ∧ W.cell? ⟨G, 2, none⟩ = some (.int .i64 (m : Int))) := fun W hW => HSB2.out W (hI.out.trans (hW.mono hI.out.size))
      have HBO : Hid (∀ W, Below wr.heap.size wr W → Below W0.heap.size W0 W) := fun W hW => hI.out.trans (hW.mono hI.out.size)
      have HBD : Hid (Below wr.heap.size wr wr.drew) := (Below.refl _ _).drew
      clear hI HSB HBX
      go_wp2_with fail
      refine wp_region_held_drew (S := fun W => (W.cell? ⟨G, 0, none⟩ = some (.pointer (some ⟨b, 0, none⟩)) ∧ W.cell? ⟨G, 1, none⟩ = some (.slice ag ng cg) ∧ W.cell? ⟨G, 2, none⟩ = some (.int .i64 (m : Int)))) (by kernel_rfl) (HSB3.out _ HBD.out) (fun hHeld => ?_)
      refine wpAnyH_takeU (i := 0) (v := .pointer (some ⟨G, 0, none⟩)) rfl (by kernel_rfl) (by kernel_rfl) (by kernel_rfl) (fun _ _ _ h => h) (by rfl) (fun W hC => by go_simp) hHeld ?_
      simp only [Act.put, List.setIfInBounds_toArray, List.set_cons_zero, List.set_cons_succ]
      refine wpAnyH_takeU (i := 1) (v := .pointer (some ⟨b, 0, none⟩)) rfl (by kernel_rfl) (by kernel_rfl) (by kernel_rfl) (fun _ _ _ h => h) (by rfl) (fun W hC => by (obtain ⟨x1, x2, x3⟩ := hC); go_simp) hHeld ?_
      simp only [Act.put, List.setIfInBounds_toArray, List.set_cons_zero, List.set_cons_succ]
      refine wpAnyH_takeU (i := 2) (v := .int .i64 s) rfl (by kernel_rfl) (by kernel_rfl) (by kernel_rfl) (fun _ _ _ h => h) (by rfl) (fun W hC => by go_simp) hHeld ?_
      simp only [Act.put, List.setIfInBounds_toArray, List.set_cons_zero, List.set_cons_succ]
      refine wpAnyH_takeU (i := 3) (v := .pointer (some ⟨G, 0, none⟩)) rfl (by kernel_rfl) (by kernel_rfl) (by kernel_rfl) (fun _ _ _ h => h) (by rfl) (fun W hC => by go_simp) hHeld ?_
      simp only [Act.put, List.setIfInBounds_toArray, List.set_cons_zero, List.set_cons_succ]
      refine wpAnyH_takeU (i := 4) (v := .pointer (some ⟨b, 0, none⟩)) rfl (by kernel_rfl) (by kernel_rfl) (by kernel_rfl) (fun _ _ _ h => h) (by rfl) (fun W hC => by (obtain ⟨x1, x2, x3⟩ := hC); go_simp) hHeld ?_
      simp only [Act.put, List.setIfInBounds_toArray, List.set_cons_zero, List.set_cons_succ]
      refine wpAnyH_takeU (i := 5) (v := .agg #[.pointer (some ⟨b, 0, none⟩), .slice ag ng cg, .int .i64 (m : Int)]) rfl (by kernel_rfl) (by kernel_rfl) (by kernel_rfl) (fun _ _ _ h => h) (by rfl) (fun W hC => by (obtain ⟨x1, x2, x3⟩ := hC); go_simp) hHeld ?_
      simp only [Act.put, List.setIfInBounds_toArray, List.set_cons_zero, List.set_cons_succ]
      refine wpAnyH_takeU (i := 6) (v := .int .i64 (k : Int)) rfl (by kernel_rfl) (by kernel_rfl) (by kernel_rfl) (fun _ _ _ h => h) (by rfl) (fun W hC => by go_simp) hHeld ?_
      simp only [Act.put, List.setIfInBounds_toArray, List.set_cons_zero, List.set_cons_succ]
      refine wpAnyH_takeU (i := 7) (v := .slice az nz cz) rfl (by kernel_rfl) (by kernel_rfl) (by kernel_rfl) (fun _ _ _ h => h) (by rfl) (fun W hC => by go_simp) hHeld ?_
      simp only [Act.put, List.setIfInBounds_toArray, List.set_cons_zero, List.set_cons_succ]
      refine wpAnyH_takeU (i := 8) (v := .slice ax nx cx) rfl (by kernel_rfl) (by kernel_rfl) (by kernel_rfl) (fun _ _ _ h => h) (by rfl) (fun W hC => by go_simp) hHeld ?_
      simp only [Act.put, List.setIfInBounds_toArray, List.set_cons_zero, List.set_cons_succ]
      refine wpAnyH_takeU (i := 9) (v := .slice ay ny cy) rfl (by kernel_rfl) (by kernel_rfl) (by kernel_rfl) (fun _ _ _ h => h) (by rfl) (fun W hC => by go_simp) hHeld ?_
      simp only [Act.put, List.setIfInBounds_toArray, List.set_cons_zero, List.set_cons_succ]
      refine wpAnyH_takeU (i := 11) (v := .agg #[.pointer (some ⟨b, 0, none⟩), .slice ag ng cg, .int .i64 (m : Int)]) rfl (by kernel_rfl) (by kernel_rfl) (by kernel_rfl) (fun _ _ _ h => h) (by rfl) (fun W hC => by (obtain ⟨x1, x2, x3⟩ := hC); go_simp) hHeld ?_
      simp only [Act.put, List.setIfInBounds_toArray, List.set_cons_zero, List.set_cons_succ]
      refine wpAnyH_takeU (i := 12) (v := .int .i64 (k : Int)) rfl (by kernel_rfl) (by kernel_rfl) (by kernel_rfl) (fun _ _ _ h => h) (by rfl) (fun W hC => by go_simp) hHeld ?_
      simp only [Act.put, List.setIfInBounds_toArray, List.set_cons_zero, List.set_cons_succ]
      refine wpAnyH_takeU (i := 13) (v := .int .i64 A) rfl (by kernel_rfl) (by kernel_rfl) (by kernel_rfl) (fun _ _ _ h => h) (by rfl) (fun W hC => by go_simp) hHeld ?_
      simp only [Act.put, List.setIfInBounds_toArray, List.set_cons_zero, List.set_cons_succ]
      refine wpAnyH_takeU (i := 14) (v := .int .i64 B) rfl (by kernel_rfl) (by kernel_rfl) (by kernel_rfl) (fun _ _ _ h => h) (by rfl) (fun W hC => by go_simp) hHeld ?_
      simp only [Act.put, List.setIfInBounds_toArray, List.set_cons_zero, List.set_cons_succ]
      refine wpAnyH_ready (rs := [10]) (by kernel_rfl) (by simp) ?_
      refine AllReadyH.consU rfl (fun K' hK' => ?_) AllReadyH.nil
      go_simp
      refine (HWI.out _ k hk2 HBD.out).mono ?_
      rintro e w3 ⟨rfl, hb3⟩
      have HB3 : Hid (Below wr.heap.size wr w3) := HBD.out.trans hb3
      refine hK'.out _ _ (HSB3.out _ HB3.out) (fun hHeld => ?_)
      clear hK' K'
      refine wpAnyH_ready (rs := [15]) (by kernel_rfl) (by simp) ?_
      refine AllReadyH.consU rfl (fun K' hK' => ?_) AllReadyH.nil
      go_simp
      refine (HJO.out _ k hk2 HB3.out).mono ?_
      rintro e w4 ⟨rfl, hb4⟩
      have HB4 : Hid (Below wr.heap.size wr w4) := HB3.out.trans (hb4.mono HB3.out.size)
      refine hK'.out _ _ (HSB3.out _ HB4.out) (fun hHeld => ?_)
      clear hK' K'
      refine wpAnyH_ready (rs := [16]) (by kernel_rfl) (by simp) ?_
      refine AllReadyH.consU rfl (fun K' hK' => ?_) AllReadyH.nil
      go_simp
      refine (HMU.out _ k HB4.out).mono ?_
      rintro e w5 ⟨rfl, hw⟩
      have hw1 := hw.symm
      subst hw1
      clear hw
      refine hK'.out _ _ (HSB3.out _ HB4.out) (fun hHeld => ?_)
      clear hK' K'
      refine wpAnyH_ready (rs := [17]) (by kernel_rfl) (by simp) ?_
      refine AllReadyH.consU rfl (fun K' hK' => ?_) AllReadyH.nil
      go_simp
      refine (HAD.out _ k s HB4.out hs.out).mono ?_
      rintro e w5 ⟨rfl, hw⟩
      have hw1 := hw.symm
      subst hw1
      clear hw
      refine hK'.out _ _ (HSB3.out _ HB4.out) (fun hHeld => ?_)
      clear hK' K'
      refine wpAnyH_takeU (i := 18) (v := .int .i64 (P (k + 1))) rfl (by kernel_rfl) (by kernel_rfl) (by kernel_rfl) (fun _ _ _ h => h) (by rfl) (fun W hC => by go_simp) hHeld ?_
      simp only [Act.put, List.setIfInBounds_toArray, List.set_cons_zero, List.set_cons_succ]
      refine wpAnyH_done (by kernel_rfl) ?_ _
      have HBF := hid (HBO.out _ HB4.out)
      go_wp2_with fail
      go_roundw
      case rel => exact ⟨k + 1, by omega, by go_num, P (k + 1), rfl, rfl, HBF.out⟩
      case measure => simp [intOf]; omega
    · obtain rfl : k = 2 := by omega
      have HE : Hid (Below w.heap.size w wr) := HBW.out _ hI.out
      have HS := hs
      clear hI hs HSB HBX
      go_wp2_with fail
      go_ret
      exact ⟨by rw [← HS.out]; rfl, HE.out⟩

end Go.Proofs.YtpgnabmkfkcogaaGreatDoor

namespace Go.Proofs.YtpgnabmkfkcogaaGreatDoor
open Go.RowKit

end Go.Proofs.YtpgnabmkfkcogaaGreatDoor
