/- Package gates, on the way down: answer, through, between, extended. Package gates, on the way down: ends. -/
import Derived.Test.YtpgnabmkfkcogaaGreatDoorGmAP
import Derived.Test.YtpgnabmkfkcogaaGreatDoorGmAJ
namespace Go.Proofs.YtpgnabmkfkcogaaGreatDoor
open Go.RowKit

set_option maxRecDepth 100000 in
set_option maxHeartbeats 1000000 in
theorem answer_any (N0 q n c c1 : Nat) (a1 : Option Addr) (l D : List Int) (w : World) (h3 : 3 ≤ q) (h4 : q ≤ 2147483647) (hP : PCh N0 q n w c D) (hD : Dig D) (hl1 : l.length ≤ 17592186043904) (hf1 : Fits l) (H1 : Lst w.heap.size w a1 c1 l) :
    Calls Tryz.prog 152 #[.pointer (some ⟨c, 0, none⟩), .slice a1 l.length c1] w fun e w' => e = .returned (.int .i64 (zat (gan q n D l) 0)) ∧ PCh N0 q n w' c (gan q n D l) ∧ w.grownBy w' (some c) := by
  have HT1 := hid (ctake_any N0 q n c c1 a1 l D w hP hD hl1 hf1 H1)
  have HDR := hid (fun (W : World) (h : PCh N0 q n W c (digl q n (3 :: (D ++ l)))) => cdraw_any N0 q n c _ W h (dig_digl h3 h4 _ _))
  have HPD : Hid (gan q n D l = digl q n (4 :: digl q n (3 :: (D ++ l)))) := rfl
  rw [HPD.out]
  generalize digl q n (4 :: digl q n (3 :: (D ++ l))) = D3 at *
  generalize digl q n (3 :: (D ++ l)) = D1 at *
  generalize l.length = n1 at *
  clear hP hD hf1 H1 HPD
  go_enter Tryz.func152, Tryz.ntmps152
  go_wp2_with fail
  refine HT1.out.mono ?_
  rintro e w1 ⟨rfl, hp1, hg1⟩
  have HX := hid (HDR.out w1 hp1)
  have HG1 := hid hg1
  clear hp1 hg1 HT1 HDR
  go_wp2_with fail
  refine HX.out.mono ?_
  rintro e w2 ⟨rfl, hp2, hg2⟩
  have HE : Hid (PCh N0 q n w2 c D3 ∧ w.grownBy w2 (some c)) := ⟨hp2, gb_trans HG1.out hg2⟩
  clear hp2 hg2 HX HG1
  go_wp2_with fail
  go_ret
  exact ⟨rfl, HE.out⟩

theorem atz_fits {p : Nat} (h3 : 3 ≤ p) (hm : p ≤ 2147483647) (l : List Int) (r : Int) : i64B (atz p l r) := by
  have := atz_bounds p l r h3
  exact ⟨by omega, by omega⟩
set_option maxRecDepth 100000 in
set_option maxHeartbeats 4000000 in
theorem between_any (p b c1 c2 : Nat) (y1 y2 : Value) (a1 a2 : Option Addr) (x y : List Int) (t : Int) (w : World) (h3 : 3 ≤ p) (hm : p ≤ 2147483647) (hp : w.cell? ⟨b, 0, none⟩ = some (.int .i64 p)) (hn : x.length ≤ 1000) (hxy : y.length = x.length) (fx : Fits x) (fy : Fits y) (ht : i64B t) (rx : RowB w.heap.size w a1 x) (ry : RowB w.heap.size w a2 y) :
    Calls Tryz.prog 154 #[.agg #[.pointer (some ⟨b, 0, none⟩), y1, y2], .slice a1 x.length c1, .slice a2 y.length c2, .int .i64 t] w fun e w' => ∃ O, e = .returned (.slice (some ⟨O, 0, none⟩) x.length x.length) ∧ w.heap.size ≤ O ∧ ArrI w' O 3 x.length (zat (onl p x y t)) ∧ Below w.heap.size w w' := by
  rw [hxy]
  obtain ⟨W0, hW0⟩ : ∃ W0, W0 = w.alloc (.cells #[.pointer (some ⟨b, 0, none⟩), y1, y2] 149) := ⟨_, rfl⟩
  obtain ⟨hb0, hs0, hz0⟩ := own_blk hW0
  obtain ⟨G, hG⟩ : ∃ G, G = w.heap.size := ⟨_, rfl⟩
  rw [← hG] at hs0
  have HGE := hid hG
  have HB0 := hid hb0
  have HGL : Hid (G < W0.heap.size) := by unfold Hid; omega
  have HC : Hid (∀ W, Below W0.heap.size W0 W → W.cell? ⟨G, 0, none⟩ = some (.pointer (some ⟨b, 0, none⟩)) ∧ W.cell? ⟨G, 1, none⟩ = some (y1) ∧ W.cell? ⟨G, 2, none⟩ = some (y2) ∧ W.cell? ⟨b, 0, none⟩ = some (.int .i64 p)) := fun W hW => by
    have e := (hW.block G HGL.out).trans hs0
    have hb := HB0.out.trans (hW.mono HB0.out.size)
    exact ⟨by simp [World.cell?, e], by simp [World.cell?, e], by simp [World.cell?, e], (hb.cell (p := ⟨b, 0, none⟩) (heap_lt hp)).trans hp⟩
  have c0 := (HC.out W0 (Below.refl _ _)).1
  obtain ⟨n, hnn⟩ : ∃ n, n = x.length := ⟨_, rfl⟩
  have HN := hid hnn
  obtain ⟨F, hF⟩ : ∃ F : Nat → Int, F = zat (onl p x y t) := ⟨_, rfl⟩
  have HFE : Hid (∀ k, k < n → (zat x k + t * ((zat y k - zat x k) % (p : Int)) % (p : Int)) % (p : Int) = F k) := fun k hk => by
    rw [hF, on_eq]
    unfold onl
    rw [ls_at _ _ _ (by omega)]
  have HX := hid fx
  have HY := hid fy
  have HRX : Hid (∀ k, k < n → ∃ b o, a1 = some ⟨b, o, none⟩ ∧ b < w.heap.size ∧ w.cell? ⟨b, o + k, none⟩ = some (.int .i64 (zat x k))) := fun k hk => rx k (by omega)
  have HRY : Hid (∀ k, k < n → ∃ b o, a2 = some ⟨b, o, none⟩ ∧ b < w.heap.size ∧ w.cell? ⟨b, o + k, none⟩ = some (.int .i64 (zat y k))) := fun k hk => ry k (by omega)
  have hmk2 := fun w => run_make_row' (P := Tryz.prog) 23 3 (.int .i64 0) 8 Tryz.underlying23 Tryz.infoInt rfl .i64 .i64 n (by omega) (by omega) w
  rw [← hF]
  obtain ⟨O, hO⟩ : ∃ O, O = w.heap.size + 1 := ⟨_, rfl⟩
  have HOE : Hid (O = W0.heap.size) := by unfold Hid; omega
  have HOW : Hid (w.heap.size ≤ O) := by unfold Hid; omega
  simp only [← hnn] at hn ⊢
  clear hp fx fy rx ry hxy hF hnn hs0 hb0 hz0 hG
  go_enter Tryz.func154, Tryz.ntmps154
  go_wp2_with fail
  rw [← hO, ← HGE.out, ← hW0]
  clear hW0 hO
  go_loopw [10, 16] (fun _ iv wr => ∃ k : Nat, k ≤ n ∧ iv = .int .i64 (k : Int) ∧ Hid (ArrI wr O 3 n (fll F (fun _ => 0) k) ∧ Below W0.heap.size W0 wr)) (fun _ iv _ => n - (intOf iv).toNat)
  case atStart => exact ⟨0, by omega, rfl, by rw [fll_zero, HOE.out]; exact World.rowIs_made _ _ _ _, (Below.refl _ _).alloc (Nat.le_refl _) _⟩
  case round =>
    obtain ⟨k, hk, rfl, hI⟩ := hrel
    by_cases hlt : k < n
    · have hlt2 : (k : Int) < (n : Int) := by omega
      have hks : IntKind.i64.wrap ((k : Int) + 1) = (k : Int) + 1 := by rw [IntKind.wrap_i64]; omega
      obtain ⟨b1, o1, rfl, hb1, hx1⟩ := HRX.out k hlt
      obtain ⟨b2, o2, rfl, hb2, hx2⟩ := HRY.out k hlt
      have HBW := hid hI.out.2
      have HSB : Hid (∀ W, Below wr.heap.size wr W → W.cell? ⟨G, 0, none⟩ = some (.pointer (some ⟨b, 0, none⟩)) ∧ W.cell? ⟨b1, o1 + k, none⟩ = some (.int .i64 (zat x k)) ∧ W.cell? ⟨b2, o2 + k, none⟩ = some (.int .i64 (zat y k))) := fun W hW => by
        have h1 := HBW.out.trans (hW.mono HBW.out.size)
        have h2 := HB0.out.trans (h1.mono HB0.out.size)
        exact ⟨(HC.out W h1).1, (h2.cell (p := ⟨b1, o1 + k, none⟩) hb1).trans hx1, (h2.cell (p := ⟨b2, o2 + k, none⟩) hb2).trans hx2⟩
      have HBD : Hid (Below wr.heap.size wr wr.drew) := (Below.refl _ _).drew
      have HAB : Hid (ArrI wr.drew O 3 n (fll F (fun _ => 0) k)) := hI.out.1.below ((Below.refl _ _).drew (w := wr)) (by exact hI.out.1.lt)
      have HA2 : Hid (ArrI (wr.drew.setCell ⟨O, k, none⟩ (.int .i64 (F k))) O 3 n (fll F (fun _ => 0) (k + 1)) ∧ Below W0.heap.size W0 (wr.drew.setCell ⟨O, k, none⟩ (.int .i64 (F k)))) := ⟨HAB.out.next, HBW.out.drew.setCell (p := ⟨O, k, none⟩) (by show W0.heap.size ≤ O; have := HOE.out; omega) _⟩
      have HS4 : Hid ((wr.drew.setCell ⟨O, k, none⟩ (.int .i64 (F k))).cell? ⟨G, 0, none⟩ = some (.pointer (some ⟨b, 0, none⟩)) ∧ (wr.drew.setCell ⟨O, k, none⟩ (.int .i64 (F k))).cell? ⟨b1, o1 + k, none⟩ = some (.int .i64 (zat x k)) ∧ (wr.drew.setCell ⟨O, k, none⟩ (.int .i64 (F k))).cell? ⟨b2, o2 + k, none⟩ = some (.int .i64 (zat y k))) := by
        have h2 := HB0.out.trans (HA2.out.2.mono HB0.out.size)
        exact ⟨(HC.out _ HA2.out.2).1, (h2.cell (p := ⟨b1, o1 + k, none⟩) hb1).trans hx1, (h2.cell (p := ⟨b2, o2 + k, none⟩) hb2).trans hx2⟩
      obtain ⟨f1, f2⟩ := HX.out.all k
      obtain ⟨f3, f4⟩ := HY.out.all k
      have HE := hid (HFE.out k hlt)
      have hpc : ∀ W, Below wr.heap.size wr W → W.cell? ⟨b, 0, none⟩ = some (.int .i64 p) := fun W hW => (HC.out W (HBW.out.trans (hW.mono HBW.out.size))).2.2.2
      generalize zat x k = X at *
      generalize zat y k = Y at *
      have HSU := hid (fun W (h : Below wr.heap.size wr W) => sub_any p b Y X W h3 hm (hpc W h) f3 f4 f1 f2)
      obtain ⟨e1, e2⟩ := emod_bounds (Y - X) p h3
      have HMU := hid (fun W (h : Below wr.heap.size wr W) => mul_any p b t ((Y - X) % (p : Int)) W h3 hm (hpc W h) ht.1 ht.2 (by omega) (by omega))
      generalize (Y - X) % (p : Int) = D1 at *
      obtain ⟨e3, e4⟩ := emod_bounds (t * D1) p h3
      have HAD := hid (fun W (h : Below wr.heap.size wr W) => add_any p b X (t * D1 % (p : Int)) W h3 hm (hpc W h) f1 f2 (by omega) (by omega))
      generalize t * D1 % (p : Int) = D2 at *
      rw [HE.out] at HAD
      clear hI f1 f2 f3 f4 e1 e2 e3 e4 hb1 hx1 hb2 hx2 hpc HE c0
      go_wp2_with fail
      refine wp_region_held_drew (S := fun W => (W.cell? ⟨G, 0, none⟩ = some (.pointer (some ⟨b, 0, none⟩))) ∧ W.cell? ⟨b1, o1 + k, none⟩ = some (.int .i64 X) ∧ W.cell? ⟨b2, o2 + k, none⟩ = some (.int .i64 Y)) (by kernel_rfl) (HSB.out _ HBD.out) (fun hHeld => ?_)
      refine wpAnyH_takeU (i := 0) (v := .slice (some ⟨O, 0, none⟩) n n) rfl (by kernel_rfl) (by kernel_rfl) (by kernel_rfl) (fun _ _ _ h => h) (by rfl) (fun W hC => by go_simp) hHeld ?_
      simp only [Act.put, List.setIfInBounds_toArray, List.set_cons_zero, List.set_cons_succ]
      refine wpAnyH_takeU (i := 1) (v := .int .i64 (k : Int)) rfl (by kernel_rfl) (by kernel_rfl) (by kernel_rfl) (fun _ _ _ h => h) (by rfl) (fun W hC => by go_simp) hHeld ?_
      simp only [Act.put, List.setIfInBounds_toArray, List.set_cons_zero, List.set_cons_succ]
      refine wpAnyH_takeU (i := 2) (v := .pointer (some ⟨G, 0, none⟩)) rfl (by kernel_rfl) (by kernel_rfl) (by kernel_rfl) (fun _ _ _ h => h) (by rfl) (fun W hC => by go_simp) hHeld ?_
      simp only [Act.put, List.setIfInBounds_toArray, List.set_cons_zero, List.set_cons_succ]
      refine wpAnyH_takeU (i := 3) (v := .pointer (some ⟨b, 0, none⟩)) rfl (by kernel_rfl) (by kernel_rfl) (by kernel_rfl) (fun _ _ _ h => h) (by rfl) (fun W hC => by (obtain ⟨x1, x2, x3⟩ := hC); go_simp) hHeld ?_
      simp only [Act.put, List.setIfInBounds_toArray, List.set_cons_zero, List.set_cons_succ]
      refine wpAnyH_takeU (i := 4) (v := .slice (some ⟨b1, o1, none⟩) n c1) rfl (by kernel_rfl) (by kernel_rfl) (by kernel_rfl) (fun _ _ _ h => h) (by rfl) (fun W hC => by go_simp) hHeld ?_
      simp only [Act.put, List.setIfInBounds_toArray, List.set_cons_zero, List.set_cons_succ]
      refine wpAnyH_takeU (i := 5) (v := .int .i64 (k : Int)) rfl (by kernel_rfl) (by kernel_rfl) (by kernel_rfl) (fun _ _ _ h => h) (by rfl) (fun W hC => by go_simp) hHeld ?_
      simp only [Act.put, List.setIfInBounds_toArray, List.set_cons_zero, List.set_cons_succ]
      refine wpAnyH_takeU (i := 6) (v := .pointer (some ⟨b1, o1 + k, none⟩)) rfl (by kernel_rfl) (by kernel_rfl) (by kernel_rfl) (fun _ _ _ h => h) (by rfl) (fun W hC => by go_simp) hHeld ?_
      simp only [Act.put, List.setIfInBounds_toArray, List.set_cons_zero, List.set_cons_succ]
      refine wpAnyH_takeU (i := 7) (v := .int .i64 X) rfl (by kernel_rfl) (by kernel_rfl) (by kernel_rfl) (fun _ _ _ h => h) (by rfl) (fun W hC => by (obtain ⟨x1, x2, x3⟩ := hC); go_simp) hHeld ?_
      simp only [Act.put, List.setIfInBounds_toArray, List.set_cons_zero, List.set_cons_succ]
      refine wpAnyH_takeU (i := 8) (v := .pointer (some ⟨G, 0, none⟩)) rfl (by kernel_rfl) (by kernel_rfl) (by kernel_rfl) (fun _ _ _ h => h) (by rfl) (fun W hC => by go_simp) hHeld ?_
      simp only [Act.put, List.setIfInBounds_toArray, List.set_cons_zero, List.set_cons_succ]
      refine wpAnyH_takeU (i := 9) (v := .pointer (some ⟨b, 0, none⟩)) rfl (by kernel_rfl) (by kernel_rfl) (by kernel_rfl) (fun _ _ _ h => h) (by rfl) (fun W hC => by (obtain ⟨x1, x2, x3⟩ := hC); go_simp) hHeld ?_
      simp only [Act.put, List.setIfInBounds_toArray, List.set_cons_zero, List.set_cons_succ]
      refine wpAnyH_takeU (i := 10) (v := .int .i64 t) rfl (by kernel_rfl) (by kernel_rfl) (by kernel_rfl) (fun _ _ _ h => h) (by rfl) (fun W hC => by go_simp) hHeld ?_
      simp only [Act.put, List.setIfInBounds_toArray, List.set_cons_zero, List.set_cons_succ]
      refine wpAnyH_takeU (i := 11) (v := .pointer (some ⟨G, 0, none⟩)) rfl (by kernel_rfl) (by kernel_rfl) (by kernel_rfl) (fun _ _ _ h => h) (by rfl) (fun W hC => by go_simp) hHeld ?_
      simp only [Act.put, List.setIfInBounds_toArray, List.set_cons_zero, List.set_cons_succ]
      refine wpAnyH_takeU (i := 12) (v := .pointer (some ⟨b, 0, none⟩)) rfl (by kernel_rfl) (by kernel_rfl) (by kernel_rfl) (fun _ _ _ h => h) (by rfl) (fun W hC => by (obtain ⟨x1, x2, x3⟩ := hC); go_simp) hHeld ?_
      simp only [Act.put, List.setIfInBounds_toArray, List.set_cons_zero, List.set_cons_succ]
      refine wpAnyH_takeU (i := 13) (v := .slice (some ⟨b2, o2, none⟩) n c2) rfl (by kernel_rfl) (by kernel_rfl) (by kernel_rfl) (fun _ _ _ h => h) (by rfl) (fun W hC => by go_simp) hHeld ?_
      simp only [Act.put, List.setIfInBounds_toArray, List.set_cons_zero, List.set_cons_succ]
      refine wpAnyH_takeU (i := 14) (v := .int .i64 (k : Int)) rfl (by kernel_rfl) (by kernel_rfl) (by kernel_rfl) (fun _ _ _ h => h) (by rfl) (fun W hC => by go_simp) hHeld ?_
      simp only [Act.put, List.setIfInBounds_toArray, List.set_cons_zero, List.set_cons_succ]
      refine wpAnyH_takeU (i := 15) (v := .pointer (some ⟨b2, o2 + k, none⟩)) rfl (by kernel_rfl) (by kernel_rfl) (by kernel_rfl) (fun _ _ _ h => h) (by rfl) (fun W hC => by go_simp) hHeld ?_
      simp only [Act.put, List.setIfInBounds_toArray, List.set_cons_zero, List.set_cons_succ]
      refine wpAnyH_takeU (i := 16) (v := .int .i64 Y) rfl (by kernel_rfl) (by kernel_rfl) (by kernel_rfl) (fun _ _ _ h => h) (by rfl) (fun W hC => by (obtain ⟨x1, x2, x3⟩ := hC); go_simp) hHeld ?_
      simp only [Act.put, List.setIfInBounds_toArray, List.set_cons_zero, List.set_cons_succ]
      refine wpAnyH_takeU (i := 17) (v := .slice (some ⟨b1, o1, none⟩) n c1) rfl (by kernel_rfl) (by kernel_rfl) (by kernel_rfl) (fun _ _ _ h => h) (by rfl) (fun W hC => by go_simp) hHeld ?_
      simp only [Act.put, List.setIfInBounds_toArray, List.set_cons_zero, List.set_cons_succ]
      refine wpAnyH_takeU (i := 18) (v := .int .i64 (k : Int)) rfl (by kernel_rfl) (by kernel_rfl) (by kernel_rfl) (fun _ _ _ h => h) (by rfl) (fun W hC => by go_simp) hHeld ?_
      simp only [Act.put, List.setIfInBounds_toArray, List.set_cons_zero, List.set_cons_succ]
      refine wpAnyH_takeU (i := 19) (v := .pointer (some ⟨b1, o1 + k, none⟩)) rfl (by kernel_rfl) (by kernel_rfl) (by kernel_rfl) (fun _ _ _ h => h) (by rfl) (fun W hC => by go_simp) hHeld ?_
      simp only [Act.put, List.setIfInBounds_toArray, List.set_cons_zero, List.set_cons_succ]
      refine wpAnyH_takeU (i := 20) (v := .int .i64 X) rfl (by kernel_rfl) (by kernel_rfl) (by kernel_rfl) (fun _ _ _ h => h) (by rfl) (fun W hC => by (obtain ⟨x1, x2, x3⟩ := hC); go_simp) hHeld ?_
      simp only [Act.put, List.setIfInBounds_toArray, List.set_cons_zero, List.set_cons_succ]
      refine wpAnyH_ready (rs := [21]) (by kernel_rfl) (by simp) ?_
      refine AllReadyH.consU rfl (fun K' hK' => ?_) AllReadyH.nil
      go_simp
      refine (HSU.out _ HBD.out).mono ?_
      rintro e w3 ⟨rfl, hw⟩
      have hw1 := hw.symm
      subst hw1
      clear hw
      refine hK'.out _ _ (HSB.out _ HBD.out) (fun hHeld => ?_)
      clear hK' K'
      refine wpAnyH_ready (rs := [22]) (by kernel_rfl) (by simp) ?_
      refine AllReadyH.consU rfl (fun K' hK' => ?_) AllReadyH.nil
      go_simp
      refine (HMU.out _ HBD.out).mono ?_
      rintro e w3 ⟨rfl, hw⟩
      have hw1 := hw.symm
      subst hw1
      clear hw
      refine hK'.out _ _ (HSB.out _ HBD.out) (fun hHeld => ?_)
      clear hK' K'
      refine wpAnyH_ready (rs := [23]) (by kernel_rfl) (by simp) ?_
      refine AllReadyH.consU rfl (fun K' hK' => ?_) AllReadyH.nil
      go_simp
      refine (HAD.out _ HBD.out).mono ?_
      rintro e w3 ⟨rfl, hw⟩
      have hw1 := hw.symm
      subst hw1
      clear hw
      have c1 := HAB.out.cell hlt
      have y1 := HAB.out.frozen k
      generalize fll F (fun _ => 0) k k = y0 at *
      refine hK'.out _ _ (HSB.out _ HBD.out) (fun hHeld => ?_)
      clear hK' K'
      refine wpAnyH_takeU (i := 24) (v := .pointer (some ⟨O, k, none⟩)) rfl (by kernel_rfl) (by kernel_rfl) (by kernel_rfl) (fun _ _ _ h => h) (by rfl) (fun W hC => by go_simp) hHeld ?_
      simp only [Act.put, List.setIfInBounds_toArray, List.set_cons_zero, List.set_cons_succ]
      refine wpAnyH_ready (rs := [25]) (by kernel_rfl) (by simp) ?_
      refine AllReadyH.consU rfl (fun K' hK' => ?_) AllReadyH.nil
      go_simp
      refine hK'.out _ _ (HS4.out) (fun hHeld => ?_)
      clear hK' K'
      refine wpAnyH_done (by kernel_rfl) ?_ _
      go_wp2_with fail
      go_roundw
      case rel => exact ⟨k + 1, by omega, by go_num, HA2.out⟩
      case measure => simp [intOf]; omega
    · obtain rfl : n = k := by omega
      have hlt2 : ¬ (n : Int) < (n : Int) := by omega
      have HE : Hid (ArrI wr O 3 n F ∧ Below w.heap.size w wr) := ⟨hI.out.1.congr (fun j hj => fll_all hj), HB0.out.trans (hI.out.2.mono HB0.out.size)⟩
      clear hI c0
      go_wp2_with fail
      go_ret
      exact ⟨O, rfl, HOW.out, HE.out⟩

set_option maxRecDepth 100000 in
set_option maxHeartbeats 1000000 in
theorem extended_any (p b n c1 c2 : Nat) (a1 a2 : Option Addr) (t fs : List Int) (w : World) (hIT : InT p b w) (hn : n ≤ 6) (ht : t.length = 2 ^ n) (hk : fs.length = n) (ft : Fits t) (ff : Fits fs) (lt : Lst w.heap.size w a1 c1 t) (lf : RowB w.heap.size w a2 fs) :
    Calls Tryz.prog 93 #[.pointer (some ⟨b, 0, none⟩), .slice a1 t.length c1, .slice a2 fs.length c2] w fun e w' => e = .returned (.int .i64 (Sum.ext (zat t) (zat fs) n % (p : Int))) ∧ Below w.heap.size w w' := by
  have hlen := fxs_len (p := p) (zat fs) ht n (Nat.le_refl _)
  have hff := fxs_fits hIT.h3 hIT.hm (zat fs) ft n
  have HV : Hid (zat (fxs p t (zat fs) n) 0 % (p : Int) = Sum.ext (zat t) (zat fs) n % (p : Int)) := by
    have h := ext_fxs (p := p) (zat fs) ht n (Nat.le_refl _)
    rw [Nat.sub_self, Sum.ext_zero] at h
    exact (emod_of_dvd h).symm
  have HX := hid (gfixed_any p b n c1 c2 a1 a2 t fs w hIT hn ht (by omega) ft ff lt lf)
  rw [hk] at HX ⊢
  rw [Nat.sub_self] at hlen
  have HO : Hid (∀ W, Below w.heap.size w W → Calls Tryz.prog 78 #[.pointer (some ⟨b, 0, none⟩), .int .i64 (zat (fxs p t (zat fs) n) 0)] W fun e w' => e = .returned (.int .i64 (Sum.ext (zat t) (zat fs) n % (p : Int))) ∧ w' = W) := fun W hW => by
    rw [← HV.out]
    have := hff.all 0
    exact of_any p b _ W hIT.h3 hIT.hm (hIT.below hW).cell this.1 this.2
  have HLL := hid hlen
  generalize Sum.ext (zat t) (zat fs) n % (p : Int) = V at *
  generalize t.length = nt at *
  clear hIT ft ff lt lf hff hlen HV ht
  go_enter Tryz.func93, Tryz.ntmps93
  go_wp2_with fail
  refine HX.out.mono ?_
  rintro e w1 ⟨a', c', rfl, hl1, _, hb1⟩
  obtain ⟨b0, o0, rfl, _, hx0⟩ := hl1.row 0 (by rw [HLL.out]; exact Nat.one_pos)
  rw [Nat.add_zero] at hx0
  have HOX := hid (HO.out w1 hb1)
  have HB1 := hid hb1
  rw [HLL.out]
  generalize zat (fxs p t (zat fs) n) 0 = x0 at *
  clear hl1 hb1 HX HO HLL
  go_wp2_with fail
  refine HOX.out.mono ?_
  rintro e w2 ⟨rfl, hw⟩
  have hw1 := hw.symm
  subst hw1
  clear hw
  go_wp2_with fail
  go_ret
  exact ⟨rfl, HB1.out⟩

end Go.Proofs.YtpgnabmkfkcogaaGreatDoor

namespace Go.Proofs.YtpgnabmkfkcogaaGreatDoor
open Go.RowKit

end Go.Proofs.YtpgnabmkfkcogaaGreatDoor
